/-
  The statements' own 'seq': the list that an iterator over the places gives; no statement is proved here.
-/
import Derived.Test.YtljflcjlmgnjjaaIter
namespace Go.Proofs.Ytljflcjlmgnjjaa
open Go.RowKit Go.Shelf

attribute [local go_sem] Oper.semAt_some

/-- A list of ints of one's own. -/
def Lst (w : World) (v : Value) (L : List Nat) : Prop := w.ownsRow 0 3 1 v L.length (L.map fun x => Value.int .i64 (x : Nat))
theorem lst_is {w : World} {a : Option Addr} {n c : Nat} {L : List Nat} (h : Lst w (.slice a n c) L) : Is w a (L.map fun x => ((x : Nat) : Int)) := by
  have := own_vs h
  unfold Is
  rwa [List.map_map]
theorem Lst.keep0 {w w' : World} {v : Value} {L : List Nat} (h : Lst w v L) (x : Ext [] w w') : Lst w' v L := own_keep0 h x

theorem eql_func_nil (w : World) (gf : FuncId) (lb : Array Value) : (binOp .eql 31 (.func (.func gf) #[] lb) .nilFunc).run Try.prog w = .ok (.bool false) w := by
  have h : ∀ d, (Op.equalIn (d + 1) 31 (.func (.func gf) #[] lb) .nilFunc).run Try.prog w = .ok false w := fun d => by simp [Op.equalIn, run_underlying Try.underlying31]
  simp only [binOp]
  simp [Op.equal, Op.maxDepth, h 9999]

def ToldPost (w : World) (L : List Nat) (e : Ending) (w' : World) : Prop :=
  ∃ v, e = .returned (.tuple #[v, .bool true]) ∧ Lst w' v L ∧ (∀ g, v.ownBlock = some g → w.heap.size ≤ g) ∧ Ext [] w w'

theorem load24 {w : World} {g : Nat} {v : Value} (h : Boxed w g 24 v) : (loadVar 24 ⟨g, 0, none⟩).run Try.prog w = .ok v w := by
  have := h.cell
  simp [go_sem, this]
theorem load4 {w : World} {g : Nat} {v : Value} (h : Boxed w g 4 v) : (loadVar 4 ⟨g, 0, none⟩).run Try.prog w = .ok v w := by
  have := h.cell
  simp [go_sem, this]

theorem results_cells2 {P : Program} {fn : Func} {p q : Tmp} {ty ty' : TypeId} (h : fn.results = #[.cell p ty, .cell q ty']) (tmps : Array Value) (w : World) (a b : Addr) (v v' : Value)
    (hp : tmps.getD p undef = .pointer (some a)) (hq : tmps.getD q undef = .pointer (some b)) (h1 : (loadVar ty a).run P w = .ok v w) (h2 : (loadVar ty' b).run P w = .ok v' w) : (results fn tmps).run P w = .ok (.tuple #[v, v']) w := by
  have hp' : tmps[p]?.getD undef = .pointer (some a) := by simpa using hp
  have hq' : tmps[q]?.getD undef = .pointer (some b) := by simpa using hq
  simp [results, h, hp', hq', asAddr, h1, h2]

set_option maxRecDepth 100000 in
set_option maxHeartbeats 4000000 in
theorem told_any (h : Nat) (G : Int) (L : List Nat) (er : Int) (hL : ordL h G L er) (w : World) : Calls Try.prog 8 #[.int .u64 h, .int .i64 G] w (ToldPost w L) := by
  have hlen := ord_len hL
  refine (callsIn_wide (n := 8)).1 ?_
  refine callsIn_of_wp_marks Try.func8 rfl trivial ?_ rfl
  simp only [Try.ntmps8, List.size_toArray, List.length_cons, List.length_nil, Nat.reduceAdd, Nat.reduceSub, Array.replicate_succ, Array.replicate_zero, List.push_toArray, List.append_toArray, List.nil_append, List.cons_append]
  have hE2 : Ext [] w ((w.alloc (.cells #[.slice none 0 0] 24)).alloc (.cells #[.bool false] 4)) := (Ext.alloc [] _ _).trans (Ext.alloc [] _ _)
  have bL := (Boxed.new w 24 (.slice none 0 0)).alloc (.cells #[.bool false] 4)
  have bO := Boxed.new (w.alloc (.cells #[.slice none 0 0] 24)) 4 (.bool false)
  simp only [World.size_alloc] at bO
  have K := seq_any h G L er hL ((w.alloc (.cells #[.slice none 0 0] 24)).alloc (.cells #[.bool false] 4))
  have HE2 := hid hE2
  have HbL := hid bL
  have HbO := hid bO
  clear hE2 bL bO hL
  gi_wp2_with fail
  refine ⟨trivial, ?_⟩
  refine (callsIn_wide.2 K).mono ?_
  clear K
  rintro e w1 ⟨gf, lb, S, rfl, hIt, hE1⟩
  have HIt := hid hIt
  have HB1L := hid (show Boxed w1 w.heap.size 24 (.slice none 0 0) from hE1.keep HbL.out (by simp))
  have HB1O := hid (show Boxed w1 (w.heap.size + 1) 4 (.bool false) from hE1.keep HbO.out (by simp))
  have HE1 := hid (HE2.out.trans hE1)
  have hz1 : w.heap.size + 1 < w1.heap.size := HB1O.out.lt
  clear HbL HbO HE2 hE1 hIt
  have hfn := fun W => eql_func_nil W gf lb
  gi_wp2_with fail
  clear hfn
  have hEa := Ext.alloc [] w1 (.cells #[.slice none 0 0] 24)
  have bR := hid (HB1L.out.alloc (.cells #[.slice none 0 0] 24))
  have bO := hid (HB1O.out.alloc (.cells #[.slice none 0 0] 24))
  have bC := hid (Boxed.new w1 24 (.slice none 0 0))
  have hIt0 := hid (HIt.out.on hEa)
  have hSl := hid HIt.out.lt
  have hB0 := hid (hEa.below)
  have hsz : (w1.alloc (.cells #[.slice none 0 0] 24)).heap.size = w1.heap.size + 1 := by simp
  obtain ⟨W0, hW0⟩ : ∃ W0, w1.alloc (.cells #[.slice none 0 0] 24) = W0 := ⟨_, rfl⟩
  rw [hW0] at bR bO bC hB0 hsz hIt0 ⊢
  obtain ⟨i0, hi, hz0, hz1', hz2⟩ := info_parts info3
  have HI0 := hid hi
  have HZ0 := hid hz0
  clear hW0 hEa hi hz0
  refine wpIn_rangeFunc_ownH rfl (by omega) (gf := gf) (lb := lb) rfl trivial HIt.out.enters
    (hIt0.out.stops _ (by omega) W0 (Below.refl _ _)) kq_t (kq_b hIt0.out.lt) (Below.refl _ _) (fun _ => rfl)
    (fun pre W => ((∃ v, Boxed W w1.heap.size 24 v ∧ W.ownsRow w1.heap.size 3 1 v pre.length (pre.map fun x => Value.int .i64 (x : Nat)) ∧ True) ∧ (Boxed W w.heap.size 24 (.slice none 0 0) ∧ Boxed W (w.heap.size + 1) 4 (.bool false))) ∧ Below w1.heap.size w1 W)
    (fun _ _ _ => False)
    (OwnFrom.and (OwnFrom.and (Own.from (holdsRow_own w1.heap.size w1.heap.size 24 3 1 (fun pre : List Nat => pre.length) (fun pre : List Nat => pre.map fun x => Value.int .i64 (x : Nat)) (fun _ _ => True)) _) (OwnFrom.and (Own.from (boxed_own _ _ _) _) (Own.from (boxed_own _ _ _) _))) (ownFrom_below (Nat.le_refl _) (by omega)))
    (fun _ _ _ _ _ hs _ _ => hs)
    ⟨⟨⟨_, bC.out, own_nil _ _ _ _, trivial⟩, bR.out, bO.out⟩, hB0.out⟩
    (fun x a' _ => a' = { tmps := #[.int .u64 h, .int .i64 G, undef, undef, .pointer (some ⟨w.heap.size, 0, none⟩), .pointer (some ⟨w.heap.size + 1, 0, none⟩), .func (.func gf) #[] lb, .int .i64 er, .pointer (some ⟨w1.heap.size, 0, none⟩), .int .i64 (x : Nat), .tuple #[.func (.func gf) #[] lb, .int .i64 er], .int .u64 h, .int .i64 G, .tuple #[.func (.func gf) #[] lb, .int .i64 er], .func (.func gf) #[] lb, .int .i64 er, .func (.func gf) #[] lb, .bool false, .func (.func gf) #[] lb, .int .i64 (x : Nat), undef, undef, undef, undef, undef, undef, undef, undef], defers := [] })
    (fun x a' _ X Y row hs hg hr => hs)
    ?assign ?body ?done ?stop
  case assign =>
    rintro l pre x W K ⟨⟨⟨v, bC1, hrow, _⟩, bR1, bM1⟩, hB1⟩ hK
    gi_wp2
    exact hK _ _ (KeepsFrom.refl _ _) (Kq.refl _ _) ⟨⟨⟨v, bC1, hrow, trivial⟩, bR1, bM1⟩, hB1⟩ rfl
  case body =>
    rintro l pre x a' W hl ⟨r, hr⟩ ⟨⟨⟨v, bC1, hrow, _⟩, bR1, bO1⟩, hB1⟩ rfl hlt
    have hc := bC1.cell
    have hpl : pre.length + 1 ≤ 4096 := by omega
    have hpl6 : ¬ ((4096 : Int) < (pre.length : Int) + 1) := by omega
    have hxr : ∀ (j : Nat) (u : Value), [Value.int .i64 (x : Nat)][j]? = some u → (W.alloc (.cells #[.int .i64 (x : Nat)] 3)).cell? ((⟨W.heap.size, 0, none⟩ : Addr).add j) = some u := fun j u hu => by
      rw [Addr.add_lit, cell_of_row _ _ _ _ _ _ (heap_alloc_new W _), Nat.zero_add, ← hu]; simp
    have HX := hid hxr
    have HC1 := hid bC1
    have Hrow := hid hrow
    have HB1 := hid hB1
    have HR1 := hid bR1
    have HO1 := hid bO1
    have hWs : w1.heap.size ≤ W.heap.size := hB1.size
    have hwl : w.heap.size < w1.heap.size := by omega
    have hwl1 : w.heap.size + 1 < w1.heap.size := by omega
    clear bC1 hrow hB1 bR1 bO1 hxr hr
    gi_wp2_with (gi_at_builtin; refine wpListIn_append_own _ rfl _ _ 24 rfl w1.heap.size 3 i0 _ 1 8 Try.underlying24 HI0.out HZ0.out hz1' hz2 rfl (by decide) _ _ _ rfl (Hrow.out.alloc _) ⟨W.heap.size, 0, none⟩ 1 1 [.int .i64 (x : Nat)] rfl rfl HX.out (by simp [Value.oneCell']) (by unfold maxLen; omega) (by omega) (by simp; omega) ?_; intro v' w2 hown' hgrow _; obtain ⟨g', cap', rfl⟩ := ownsRow_succ hown'; obtain ⟨hv1, hv2, hr2, hk2, hb2⟩ := HC1.out.appended (by decide) Hrow.out HB1.out.size (Nat.le_refl _) hown' hgrow; have hc1 := hv1.cell; have hf1 := hv1.frozen; have hc2 := hv2.cell)
    refine ⟨hk2.from _, Kq.of_below hb2 hSl.out, ⟨⟨_, hv2, ?_⟩, (hb2.block _ hwl).trans HR1.out, (hb2.block _ hwl1).trans HO1.out⟩, HB1.out.trans hb2⟩
    rw [List.map_append, List.length_append]
    exact hr2
  case done =>
    rintro D zs W hD rfl ⟨⟨⟨v, bC1, hrow, _⟩, bR1, bO1⟩, hB1⟩ hK
    obtain ⟨av, cv, rfl, _⟩ := own_slice hrow
    have hc := bC1.cell
    have cR := bR1.cell
    have fR := bR1.frozen
    have cO := bO1.cell
    have fO := bO1.frozen
    have HB1 := hid hB1
    have HK := hid hK
    have HR1 := hid bR1
    have HO1 := hid bO1
    have Hrow := hid hrow
    have HD := hid hD
    clear hB1 hK bR1 bO1 hrow bC1 hD
    gi_wp2
    have hK2 := ((KeepsOthers.setCell W ⟨w.heap.size, 0, none⟩ (.slice av zs.length cv)).trans (KeepsOthers.setCell _ ⟨w.heap.size + 1, 0, none⟩ (.bool true))).same _ _ HK.out rfl
    refine ⟨by simp, .inl ⟨_, _, rfl, run_takeDeferred hK2, ?_⟩⟩
    have hP := grownBy_putObj' ((W.setCell ⟨w.heap.size, 0, none⟩ (.slice av zs.length cv)).setCell ⟨w.heap.size + 1, 0, none⟩ (.bool true)) D (.deferred none)
    have hx1 := Ext.setCell [w.heap.size] W ⟨w.heap.size, 0, none⟩ (.slice av zs.length cv) (by simp)
    have hx2 := Ext.setCell [w.heap.size + 1] (W.setCell ⟨w.heap.size, 0, none⟩ (.slice av zs.length cv)) ⟨w.heap.size + 1, 0, none⟩ (.bool true) (by simp)
    have hx3 := Ext.grown (S := [D]) hP (by simp)
    have hD2 := HD.out
    have hr1 : Boxed _ _ _ _ := hx3.keep (hx2.keep (HR1.out.set (.slice av zs.length cv)) (by simp)) (by simp; omega)
    have hr2 : Boxed _ _ _ _ := hx3.keep ((show Boxed _ _ _ _ from hx1.keep HO1.out (by simp)).set (.bool true)) (by simp; omega)
    have hE : Ext [] w W := HE1.out.trans (below_ext HB1.out)
    have hol := own_lt Hrow.out
    refine ⟨_, results_cells2 rfl _ _ ⟨w.heap.size, 0, none⟩ ⟨w.heap.size + 1, 0, none⟩ _ _ rfl rfl (load24 hr1) (load4 hr2), _, rfl, ?_, ?_, ?_⟩
    · have h1 := own_keep Hrow.out hx1 (by simp; intro h; have := hol _ h; omega)
      have h2 := own_keep h1 hx2 (by simp; intro h; have := hol _ h; omega)
      have h3 := own_keep h2 hx3 (by
        intro b hb
        simp at hb
        subst hb
        intro h
        rcases h2.2 with ⟨h0, _⟩ | ⟨g, cap, cur, h0, _, hg, _⟩
        · rw [h0] at h; simp [Value.ownBlock] at h
        · rw [h0] at h
          simp [Value.ownBlock] at h
          subst h
          rw [hK2] at hg
          simp at hg)
      exact own_base h3 (Nat.zero_le _)
    · intro g hg
      have := (hol g hg).1
      omega
    · exact ((hE.on hx1 (by simp)).on hx2 (by simp)).on hx3 (by simp; omega)
  case stop =>
    rintro D c pre W _ _ h _
    exact h.elim
end Go.Proofs.Ytljflcjlmgnjjaa
