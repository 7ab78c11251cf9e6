/-
  The statements' own 'told': the runs that All gives; New; no statement is proved here.
-/
import Derived.Test.YtkdgekdacinlhaaOwner
namespace Go.Proofs.Ytkdgekdacinlhaa
open Go.RowKit Go.Shelf

attribute [local go_sem] Oper.semAt_some

/-! ### New -/

theorem new_bad (k : Int) (w : World) (h : k < 0 ∨ 1024 < k) : Calls Try.prog 10 #[.int .i64 k] w fun e w' => e = .returned (.tuple #[.pointer none, .int .i64 2]) ∧ w' = w := by
  rcases h with h | h
  · go_enter Try.func10, Try.ntmps10
    go_wp2
    go_ret2
    exact ⟨rfl, rfl⟩
  · have h2 : ¬ k < 0 := by omega
    go_enter Try.func10, Try.ntmps10
    go_wp2
    go_ret2
    exact ⟨rfl, rfl⟩

/-- The runs of new pages. -/
def newR (k : Nat) : List Rn := if k = 0 then [] else [⟨0, k, false⟩]

def NewPost (w : World) (k : Nat) (e : Ending) (w' : World) : Prop :=
  ∃ p v, e = .returned (.tuple #[.pointer (some ⟨p, 0, none⟩), .int .i64 0]) ∧ Rs w' p v (newR k) ∧ w.heap.size ≤ p ∧ (∀ g, v.ownBlock = some g → w.heap.size ≤ g) ∧ Ext [] w w'

theorem lst_row {w : World} {g : Nat} (L : List Rn) (n : Nat) (hn : L.length = n) (hm : n ≤ maxLen) (h : w.heap[g]? = some (.cells (rcells L).toArray 42 (0, 0))) : Lst w (.slice (some ⟨g, 0, none⟩) n n) L := by
  subst hn
  exact ⟨rcells_len L, .inr ⟨g, _, _, rfl, Nat.zero_le _, h, Nat.le_refl _, hm, by simp [rcells_len], by simp [← rcells_len]⟩⟩

theorem new_ok (k : Nat) (w : World) (h : k ≤ 1024) : Calls Try.prog 10 #[.int .i64 k] w (NewPost w k) := by
  by_cases h0 : k = 0
  · subst h0
    go_enter Try.func10, Try.ntmps10
    go_wp2
    go_ret2
    exact ⟨_, _, rfl, ⟨heap_alloc_new _ _, lst_nil _⟩, Nat.le_refl _, by simp [Value.ownBlock], Ext.alloc _ _ _⟩
  · have hk : 0 < k := by omega
    go_enter Try.func10, Try.ntmps10
    go_wp2
    go_ret2
    refine ⟨_, .slice (some ⟨w.heap.size + 1, 0, none⟩) 1 1, rfl, ⟨?_, ?_⟩, Nat.le_refl _, by simp [Value.ownBlock], ?_⟩
    · exact heap_alloc2_old _ _ _
    · have e : newR k = [⟨0, k, false⟩] := by simp [newR, h0]
      rw [e]
      exact lst_row [⟨0, k, false⟩] 1 rfl (by decide) (heap_alloc2_new _ _ _)
    · exact (Ext.alloc _ _ _).trans (Ext.alloc _ _ _)

/-! ### told -/

theorem Kl.of_below {Bn n₀ : Nat} {v : Value} {A B : World} (h : Below n₀ A B) (h1 : Bn < n₀) (h2 : ∀ g, v.ownBlock = some g → g < n₀) : Kl Bn v A B :=
  ⟨fun _ ho => (h.block _ h1).trans ho, fun g hg _ ho => (h.block g (h2 g hg)).trans ho⟩

theorem eql_func_nil (w : World) (Bn : Nat) : (binOp .eql 50 (.func (.func 34) #[] #[.pointer (some ⟨Bn, 0, none⟩)]) .nilFunc).run Try.prog w = .ok (.bool false) w := by
  have h : ∀ d, (Op.equalIn (d + 1) 50 (.func (.func 34) #[] #[.pointer (some ⟨Bn, 0, none⟩)]) .nilFunc).run Try.prog w = .ok false w := fun d => by simp [Op.equalIn, run_underlying Try.underlying50]
  simp only [binOp]
  simp [Op.equal, Op.maxDepth, h 9999]

/-- What 'told' answers. -/
def ToldPost (w : World) (L : List Rn) (e : Ending) (w' : World) : Prop :=
  ∃ v, e = .returned (.tuple #[v, .bool true]) ∧ Lst w' v L ∧ (∀ g, v.ownBlock = some g → w.heap.size ≤ g) ∧ Ext [] w w'

theorem load34 {w : World} {g : Nat} {v : Value} (h : Boxed w g 34 v) : (loadVar 34 ⟨g, 0, none⟩).run Try.prog w = .ok v w := by
  have := h.cell
  simp [go_sem, this]
theorem load4 {w : World} {g : Nat} {v : Value} (h : Boxed w g 4 v) : (loadVar 4 ⟨g, 0, none⟩).run Try.prog w = .ok v w := by
  have := h.cell
  simp [go_sem, this]

set_option maxRecDepth 100000 in
set_option maxHeartbeats 4000000 in
theorem told_of (pv : Option Addr) (L : List Rn) (w : World) (hA : ∀ W, Ext [] w W → Calls Try.prog 21 #[.pointer pv] W (AllPost W L)) (hlen : L.length ≤ 1024) : Calls Try.prog 13 #[.pointer pv] w (ToldPost w L) := by
  refine (callsIn_wide (n := 8)).1 ?_
  refine callsIn_of_wp_marks Try.func13 rfl trivial ?_ rfl
  simp only [Try.ntmps13, List.size_toArray, List.length_cons, List.length_nil, Nat.reduceAdd, Nat.reduceSub, Array.replicate_succ, Array.replicate_zero, List.push_toArray, List.append_toArray, List.nil_append, List.cons_append]
  have hE2 : Ext [] w ((w.alloc (.cells #[.slice none 0 0] 34)).alloc (.cells #[.bool false] 4)) := (Ext.alloc [] _ _).trans (Ext.alloc [] _ _)
  have bL := (Boxed.new w 34 (.slice none 0 0)).alloc (.cells #[.bool false] 4)
  have bO := Boxed.new (w.alloc (.cells #[.slice none 0 0] 34)) 4 (.bool false)
  simp only [World.size_alloc] at bO
  have K := hA _ hE2
  have HE2 := hid hE2
  have HbL := hid bL
  have HbO := hid bO
  clear hA hE2 bL bO
  gi_wp2_with fail
  refine ⟨trivial, ?_⟩
  refine (callsIn_wide.2 K).mono ?_
  clear K
  rintro e w1 ⟨Bn, v0, rfl, bN, hL0, hBn, hg0, hE1⟩
  have HB1L := hid (show Boxed w1 w.heap.size 34 (.slice none 0 0) from hE1.keep HbL.out (by simp))
  have HB1O := hid (show Boxed w1 (w.heap.size + 1) 4 (.bool false) from hE1.keep HbO.out (by simp))
  have HE1 := hid (HE2.out.trans hE1)
  have HbN := hid bN
  have HL0 := hid hL0
  have hBlt := bN.lt
  have hglt := hL0.lt
  have hz1 : w.heap.size + 1 < w1.heap.size := HB1O.out.lt
  clear HbL HbO HE2 bN hL0 hBn hg0 hE1
  unfold itv
  have hfn := fun W => eql_func_nil W Bn
  gi_wp2_with fail
  clear hfn
  have hEa := Ext.alloc [] w1 (.cells #[.slice none 0 0] 34)
  have bR := hid (HB1L.out.alloc (.cells #[.slice none 0 0] 34))
  have bO := hid (HB1O.out.alloc (.cells #[.slice none 0 0] 34))
  have bN := hid (HbN.out.alloc (.cells #[.slice none 0 0] 34))
  have bC := hid (Boxed.new w1 34 (.slice none 0 0))
  have hL := hid (HL0.out.keep0 hEa)
  have hB0 := hid (hEa.below)
  have hsz : (w1.alloc (.cells #[.slice none 0 0] 34)).heap.size = w1.heap.size + 1 := by simp
  obtain ⟨W0, hW0⟩ : ∃ W0, w1.alloc (.cells #[.slice none 0 0] 34) = W0 := ⟨_, rfl⟩
  rw [hW0] at bR bO bN bC hL hB0 hsz ⊢
  obtain ⟨i0, hi, hz0, hz1', hz2⟩ := info_parts info42
  have HI0 := hid hi
  have HZ0 := hid hz0
  clear hW0 hEa hi hz0
  refine wpIn_rangeFunc_ownH rfl (by omega) (gf := 34) (lb := #[.pointer (some ⟨Bn, 0, none⟩)]) rfl trivial (enters_of Try.func34 (by kernel_rfl) rfl)
    (each_stops Fence.wide _ trivial rfl (by omega) Bn v0 L (by omega) W0 bN.out hL.out) klK_t (klK_b (by omega) (fun g hg => by have := hglt g hg; omega)) (Below.refl _ _) (fun _ => rfl)
    (fun pre W => ((∃ v, Boxed W w1.heap.size 34 v ∧ W.ownsRow w1.heap.size 42 3 v pre.length (rcells pre) ∧ True) ∧ (Boxed W w.heap.size 34 (.slice none 0 0) ∧ Boxed W (w.heap.size + 1) 4 (.bool false))) ∧ Below w1.heap.size w1 W)
    (fun _ _ _ => False)
    (OwnFrom.and (OwnFrom.and (Own.from (holdsRow_own w1.heap.size w1.heap.size 34 42 3 (fun pre => pre.length) (fun pre => rcells pre) (fun _ _ => True)) _) (OwnFrom.and (Own.from (boxed_own _ _ _) _) (Own.from (boxed_own _ _ _) _))) (ownFrom_below (Nat.le_refl _) (by omega)))
    (fun _ _ _ _ _ hs _ _ => hs)
    ⟨⟨⟨_, bC.out, own_nil _ _ _ _, trivial⟩, bR.out, bO.out⟩, hB0.out⟩
    (fun x a' W => ∃ Bx, w1.heap.size < Bx ∧ W.heap[Bx]? = some (.cells #[.int .i64 x.s, .int .i64 x.n, .bool x.u] 42 (0, 0)) ∧ a' = { tmps := #[.pointer pv, undef, .pointer (some ⟨w.heap.size, 0, none⟩), .pointer (some ⟨w.heap.size + 1, 0, none⟩), .func (.func 34) #[] #[.pointer (some ⟨Bn, 0, none⟩)], .pointer (some ⟨w1.heap.size, 0, none⟩), .pointer (some ⟨Bx, 0, none⟩), .pointer pv, .func (.func 34) #[] #[.pointer (some ⟨Bn, 0, none⟩)], .func (.func 34) #[] #[.pointer (some ⟨Bn, 0, none⟩)], .bool false, .func (.func 34) #[] #[.pointer (some ⟨Bn, 0, none⟩)], .agg #[.int .i64 x.s, .int .i64 x.n, .bool x.u], undef, undef, undef, undef, undef, undef, undef, undef], defers := [] })
    (fun x a' _ X Y row hs hg hr => by obtain ⟨Bx, h1, h2, h3⟩ := hs; exact ⟨Bx, h1, rowAt_own Bx 42 (fun _ : Unit => #[.int .i64 x.s, .int .i64 x.n, .bool x.u]) () X Y row h2 hg (fun r e => (hr r e).2), h3⟩)
    ?assign ?body ?done ?stop
  case assign =>
    rintro l pre x W K ⟨⟨⟨v, bC1, hrow, _⟩, bR1, bO1⟩, hB1⟩ hK
    gi_wp2
    exact hK _ _ ((KeepsOthers.alloc _ _).from _) (Kl.of_ext0 (Ext.alloc [] _ _)) ⟨⟨⟨v, bC1.alloc _, hrow.alloc _, trivial⟩, bR1.alloc _, bO1.alloc _⟩, hB1.alloc hB1.size _⟩ ⟨W.heap.size, bC1.lt, heap_alloc_new _ _, rfl⟩
  case body =>
    rintro l pre x a' W hl ⟨r, hr⟩ ⟨⟨⟨v, bC1, hrow, _⟩, bR1, bO1⟩, hB1⟩ ⟨Bx, hBx, bX, rfl⟩ hlt
    have hc := bC1.cell
    have c0 : W.cell? ⟨Bx, 0, none⟩ = some (.int .i64 x.s) := by rw [cell_of_row _ _ _ _ _ _ bX]; rfl
    have c1 : W.cell? ⟨Bx, 1, none⟩ = some (.int .i64 x.n) := by rw [cell_of_row _ _ _ _ _ _ bX]; rfl
    have c2 : W.cell? ⟨Bx, 2, none⟩ = some (.bool x.u) := by rw [cell_of_row _ _ _ _ _ _ bX]; rfl
    have hpl : pre.length + 1 ≤ 1024 := by omega
    have hxr : ∀ j u, x.cells[j]? = some u → (W.alloc (.cells #[.int .i64 x.s, .int .i64 x.n, .bool x.u] 42)).cell? ((⟨W.heap.size, 0, none⟩ : Addr).add j) = some u := fun j u hu => by
      rw [Addr.add_lit, cell_of_row _ _ _ _ _ _ (heap_alloc_new W _), Nat.zero_add, ← hu]; simp [Rn.cells]
    have HX := hid hxr
    have HC1 := hid bC1
    have Hrow := hid hrow
    have HB1 := hid hB1
    have HR1 := hid bR1
    have HO1 := hid bO1
    have hWs : w1.heap.size ≤ W.heap.size := hB1.size
    clear bC1 hrow hB1 bR1 bO1 hxr bX hr
    gi_wp2_with (gi_at_builtin; refine wpListIn_append_own _ rfl _ _ 34 rfl w1.heap.size 42 i0 _ 3 24 Try.underlying34 HI0.out HZ0.out hz1' hz2 rfl (by decide) _ _ _ rfl (Hrow.out.alloc _) ⟨W.heap.size, 0, none⟩ 1 1 x.cells rfl rfl HX.out (by simp [Rn.cells, Value.oneCell']) (by unfold maxLen; omega) (by omega) (by simp; omega) ?_; intro v' w2 hown' hgrow _; obtain ⟨g', cap', rfl⟩ := ownsRow_succ hown'; obtain ⟨hv1, hv2, hr2, hk2, hb2⟩ := HC1.out.appended (by decide) Hrow.out HB1.out.size (Nat.le_refl _) hown' hgrow; have hc1 := hv1.cell; have hf1 := hv1.frozen; have hc2 := hv2.cell)
    have hlw : w.heap.size < w1.heap.size := by omega
    refine ⟨hk2.from _, Kl.of_below hb2 hBlt hglt, ⟨⟨_, hv2, ?_, trivial⟩, (hb2.block _ hlw).trans HR1.out, (hb2.block _ hz1).trans HO1.out⟩, HB1.out.trans hb2⟩
    rw [rcells_append, rcells_one, List.length_append]
    exact hr2
  case done =>
    rintro D zs W hD rfl ⟨⟨⟨v, bC1, hrow, _⟩, bR1, bO1⟩, hB1⟩ hK
    obtain ⟨av, cv, rfl, _⟩ := own_slice hrow
    have hc := bC1.cell
    have cR := bR1.cell
    have fR := bR1.frozen
    have cO := bO1.cell
    have fO := bO1.frozen
    have HB1 := hid hB1
    have HK := hid hK
    have HR1 := hid bR1
    have HO1 := hid bO1
    have Hrow := hid hrow
    have HD := hid hD
    clear hB1 hK bR1 bO1 hrow bC1 hD
    gi_wp2
    have hK2 := ((KeepsOthers.setCell W ⟨w.heap.size, 0, none⟩ (.slice av zs.length cv)).trans (KeepsOthers.setCell _ ⟨w.heap.size + 1, 0, none⟩ (.bool true))).same _ _ HK.out rfl
    refine ⟨by simp, .inl ⟨_, _, rfl, run_takeDeferred hK2, ?_⟩⟩
    have hP := grownBy_putObj' ((W.setCell ⟨w.heap.size, 0, none⟩ (.slice av zs.length cv)).setCell ⟨w.heap.size + 1, 0, none⟩ (.bool true)) D (.deferred none)
    have hx1 := Ext.setCell [w.heap.size] W ⟨w.heap.size, 0, none⟩ (.slice av zs.length cv) (by simp)
    have hx2 := Ext.setCell [w.heap.size + 1] (W.setCell ⟨w.heap.size, 0, none⟩ (.slice av zs.length cv)) ⟨w.heap.size + 1, 0, none⟩ (.bool true) (by simp)
    have hx3 := Ext.grown (S := [D]) hP (by simp)
    have hD2 := HD.out
    have hr1 : Boxed _ _ _ _ := hx3.keep (hx2.keep (HR1.out.set (.slice av zs.length cv)) (by simp)) (by simp; omega)
    have hr2 : Boxed _ _ _ _ := hx3.keep ((show Boxed _ _ _ _ from hx1.keep HO1.out (by simp)).set (.bool true)) (by simp; omega)
    have hE : Ext [] w W := HE1.out.trans (below_ext HB1.out)
    have hol := own_lt Hrow.out
    refine ⟨_, results_cells2 rfl _ _ ⟨w.heap.size, 0, none⟩ ⟨w.heap.size + 1, 0, none⟩ _ _ rfl rfl (load34 hr1) (load4 hr2), _, rfl, ?_, ?_, ?_⟩
    · have h1 := own_keep Hrow.out hx1 (by simp; intro h; have := hol _ h; omega)
      have h2 := own_keep h1 hx2 (by simp; intro h; have := hol _ h; omega)
      have h3 := own_keep h2 hx3 (by
        intro b hb
        simp at hb
        subst hb
        intro h
        rcases h2.2 with ⟨h0, _⟩ | ⟨g, cap, cur, h0, _, hg, _⟩
        · rw [h0] at h; simp [Value.ownBlock] at h
        · rw [h0] at h
          simp [Value.ownBlock] at h
          subst h
          rw [hK2] at hg
          simp at hg)
      exact own_base h3 (Nat.zero_le _)
    · intro g hg
      have := (hol g hg).1
      omega
    · exact ((hE.on hx1 (by simp)).on hx2 (by simp)).on hx3 (by simp; omega)
  case stop =>
    rintro D c pre W _ _ h _
    exact h.elim

theorem told_any (p : Nat) (v : Value) (L : List Rn) (w : World) (hR : Rs w p v L) (hlen : L.length ≤ 1024) : Calls Try.prog 13 #[.pointer (some ⟨p, 0, none⟩)] w (ToldPost w L) :=
  told_of _ L w (fun W h => all_any p v L W (hR.keep0 h) (by omega)) hlen
theorem told_nil (w : World) : Calls Try.prog 13 #[.pointer none] w (ToldPost w []) := told_of _ [] w (fun W _ => all_nil W) (by simp)

/-! ### awake -/

set_option maxRecDepth 100000 in
theorem awake_any (w : World) : Calls Try.prog 9 #[] w (SayPost w (.bool true)) := by
  go_enter Try.func9, Try.ntmps9
  go_wp2_with fail
  refine (new_ok 4 w (by omega)).mono ?_
  rintro e w1 ⟨p, v, rfl, hR, _, _, hE⟩
  have K := largest_any p v _ w1 hR (by simp [newR])
  have hb : big (newR 4) = 4 := by decide
  rw [hb] at K
  have HE := hid hE
  clear hE hR hb
  go_wp2_with fail
  refine K.mono ?_
  clear K
  rintro e w2 ⟨rfl, hE2⟩
  have HE2 := hid (HE.out.trans hE2)
  clear hE2
  go_wp2
  go_ret
  exact ⟨rfl, HE2.out⟩

end Go.Proofs.Ytkdgekdacinlhaa
