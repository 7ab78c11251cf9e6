/-
  The statements' own 'order': what Order gives; no statement is proved here.
-/
import Derived.Test.YtfjabjnajcfamaaIter
namespace Go.Proofs.Ytfjabjnajcfamaa
open Go.RowKit Go.Shelf

attribute [local go_sem] Oper.semAt_some

theorem eql_func_nil (w : World) (Bn : Nat) : (binOp .eql 36 (.func (.func 45) #[] #[.pointer (some ⟨Bn, 0, none⟩)]) .nilFunc).run Try.prog w = .ok (.bool false) w := by
  have h : ∀ d, (Op.equalIn (d + 1) 36 (.func (.func 45) #[] #[.pointer (some ⟨Bn, 0, none⟩)]) .nilFunc).run Try.prog w = .ok false w := fun d => by simp [Op.equalIn, run_underlying Try.underlying36]
  simp only [binOp]
  simp [Op.equal, Op.maxDepth, h 9999]

theorem results_cells2 {P : Program} {fn : Func} {p q : Tmp} {ty ty' : TypeId} (h : fn.results = #[.cell p ty, .cell q ty']) (tmps : Array Value) (w : World) (a b : Addr) (v v' : Value)
    (hp : tmps.getD p undef = .pointer (some a)) (hq : tmps.getD q undef = .pointer (some b)) (h1 : (loadVar ty a).run P w = .ok v w) (h2 : (loadVar ty' b).run P w = .ok v' w) : (results fn tmps).run P w = .ok (.tuple #[v, v']) w := by
  have hp' : tmps[p]?.getD undef = .pointer (some a) := by simpa using hp
  have hq' : tmps[q]?.getD undef = .pointer (some b) := by simpa using hq
  simp [results, h, hp', hq', asAddr, h1, h2]

/-- What 'order' answers. -/
def ToldPost (w : World) (L : List Int) (e : Ending) (w' : World) : Prop :=
  ∃ v, e = .returned (.tuple #[v, .bool true]) ∧ Lst w' v L ∧ (∀ g, v.ownBlock = some g → w.heap.size ≤ g) ∧ Ext [] w w'

theorem load23 {w : World} {g : Nat} {v : Value} (h : Boxed w g 23 v) : (loadVar 23 ⟨g, 0, none⟩).run Try.prog w = .ok v w := by
  have := h.cell
  simp [go_sem, this]
theorem load4 {w : World} {g : Nat} {v : Value} (h : Boxed w g 4 v) : (loadVar 4 ⟨g, 0, none⟩).run Try.prog w = .ok v w := by
  have := h.cell
  simp [go_sem, this]

set_option maxRecDepth 100000 in
set_option maxHeartbeats 4000000 in
theorem told_of (a : Option Addr) (n c : Nat) (ra : Option Addr) (rn rc : Nat) (M : List (List Int)) (R : List Int) (er : Int) (L : List Int) (w : World) (hN : Nt w a M) (hn : M.length = n) (hR : Is w ra R) (hrn : R.length = rn) (hrb : rn ≤ 17592186044416)
    (hA : ∀ W a' c' ra' rc', Nt W a' M → Is W ra' R → Calls Try.prog 20 #[.slice a' n c', .slice ra' rn rc'] W (OrPost W L er)) (hlen : L.length ≤ n) (hl6 : L.length ≤ 65536) :
    Calls Try.prog 21 #[.slice a n c, .slice ra rn rc] w (ToldPost w L) := by
  refine (callsIn_wide (n := 8)).1 ?_
  refine callsIn_of_wp_marks Try.func21 rfl trivial ?_ rfl
  simp only [Try.ntmps21, List.size_toArray, List.length_cons, List.length_nil, Nat.reduceAdd, Nat.reduceSub, Array.replicate_succ, Array.replicate_zero, List.push_toArray, List.append_toArray, List.nil_append, List.cons_append]
  have hE2 : Ext [] w (((w.alloc (.cells #[.slice a n c] 22)).alloc (.cells #[.slice none 0 0] 23)).alloc (.cells #[.bool false] 4)) := ((Ext.alloc [] _ _).trans (Ext.alloc [] _ _)).trans (Ext.alloc [] _ _)
  have bN := ((Boxed.new w 22 (.slice a n c)).alloc (.cells #[.slice none 0 0] 23)).alloc (.cells #[.bool false] 4)
  have bL := (Boxed.new (w.alloc (.cells #[.slice a n c] 22)) 23 (.slice none 0 0)).alloc (.cells #[.bool false] 4)
  have bO := Boxed.new ((w.alloc (.cells #[.slice a n c] 22)).alloc (.cells #[.slice none 0 0] 23)) 4 (.bool false)
  simp only [World.size_alloc] at bO bL
  have K1 := copied_any a n c M _ (hN.keep0 hE2) hn
  have HE2 := hid hE2
  have HbL := hid bL
  have HbO := hid bO
  have HbN := hid bN
  have HR := hid hR
  have HNn := hid hn
  have HRn := hid hrn
  have HA := hid hA
  clear hA hE2 bL bO bN hN hR hn hrn
  gi_wp2_with fail
  refine ⟨trivial, ?_⟩
  refine (callsIn_wide.2 K1).mono ?_
  clear K1
  rintro e w1 ⟨a1, c1, rfl, _, hN1, hE1⟩
  have K2 := own_any ra rn rc R w1 ((HR.out.keep0 HE2.out).keep0 hE1) HRn.out hrb
  have HN1 := hid hN1
  have HE1 := hid (HE2.out.trans hE1)
  have HB1 := hid (show Boxed w1 w.heap.size 22 (.slice a n c) from hE1.keep HbN.out (by simp))
  have HB2 := hid (show Boxed w1 (w.heap.size + 1) 23 (.slice none 0 0) from hE1.keep HbL.out (by simp))
  have HB3 := hid (show Boxed w1 (w.heap.size + 2) 4 (.bool false) from hE1.keep HbO.out (by simp))
  clear HbL HbO HbN HE2 hN1 hE1
  gi_wp2_with fail
  refine ⟨trivial, ?_⟩
  refine (callsIn_wide.2 K2).mono ?_
  clear K2
  rintro e w2 ⟨a2, c2, rfl, _, ho2, hE2⟩
  have K3 := HA.out w2 a1 c1 a2 c2 (HN1.out.keep0 hE2) (own_vs ho2)
  have HE3 := hid (HE1.out.trans hE2)
  have HB4 := hid (show Boxed w2 w.heap.size 22 (.slice a n c) from hE2.keep HB1.out (by simp))
  have HB5 := hid (show Boxed w2 (w.heap.size + 1) 23 (.slice none 0 0) from hE2.keep HB2.out (by simp))
  have HB6 := hid (show Boxed w2 (w.heap.size + 2) 4 (.bool false) from hE2.keep HB3.out (by simp))
  clear HB1 HB2 HB3 HE1 hE2 ho2 HN1 HA HR
  rw [HNn.out, HRn.out]
  gi_wp2_with fail
  refine ⟨trivial, ?_⟩
  refine (callsIn_wide.2 K3).mono ?_
  clear K3
  rintro e w3 ⟨Bn, v0, rfl, bN, hL0, hBn, hg0, hE4⟩
  have HE4 := hid (HE3.out.trans hE4)
  have HB7 := hid (show Boxed w3 w.heap.size 22 (.slice a n c) from hE4.keep HB4.out (by simp))
  have HB8 := hid (show Boxed w3 (w.heap.size + 1) 23 (.slice none 0 0) from hE4.keep HB5.out (by simp))
  have HB9 := hid (show Boxed w3 (w.heap.size + 2) 4 (.bool false) from hE4.keep HB6.out (by simp))
  have HbN := hid bN
  have HL0 := hid hL0
  have hBlt := bN.lt
  have hglt := hL0.lt
  have hz1 : w.heap.size + 2 < w3.heap.size := HB9.out.lt
  clear HB4 HB5 HB6 HE3 bN hL0 hBn hg0 hE4
  unfold itv
  have hfn := fun W => eql_func_nil W Bn
  gi_wp2_with fail
  clear hfn
  have hEa := Ext.alloc [] w3 (.cells #[.slice none 0 0] 23)
  have bR := hid (HB8.out.alloc (.cells #[.slice none 0 0] 23))
  have bO := hid (HB9.out.alloc (.cells #[.slice none 0 0] 23))
  have bM := hid (HB7.out.alloc (.cells #[.slice none 0 0] 23))
  have bN := hid (HbN.out.alloc (.cells #[.slice none 0 0] 23))
  have bC := hid (Boxed.new w3 23 (.slice none 0 0))
  have hL := hid (HL0.out.keep0 hEa)
  have hB0 := hid (hEa.below)
  have hsz : (w3.alloc (.cells #[.slice none 0 0] 23)).heap.size = w3.heap.size + 1 := by simp
  obtain ⟨W0, hW0⟩ : ∃ W0, w3.alloc (.cells #[.slice none 0 0] 23) = W0 := ⟨_, rfl⟩
  rw [hW0] at bR bO bM bN bC hL hB0 hsz ⊢
  obtain ⟨i0, hi, hz0, hz1', hz2⟩ := info_parts info3
  have HI0 := hid hi
  have HZ0 := hid hz0
  clear hW0 hEa hi hz0
  refine wpIn_rangeFunc_ownH rfl (by omega) (gf := 45) (lb := #[.pointer (some ⟨Bn, 0, none⟩)]) rfl trivial (enters_of Try.func45 (by kernel_rfl) rfl)
    (each_stops Fence.wide _ trivial rfl (by omega) Bn v0 L (by omega) W0 bN.out hL.out) klK_t (klK_b (by omega) (fun g hg => by have := hglt g hg; omega)) (Below.refl _ _) (fun _ => rfl)
    (fun pre W => ((∃ v, Boxed W w3.heap.size 23 v ∧ W.ownsRow w3.heap.size 3 1 v pre.length (pre.map (Value.int .i64)) ∧ True) ∧ ((Boxed W (w.heap.size + 1) 23 (.slice none 0 0) ∧ Boxed W (w.heap.size + 2) 4 (.bool false)) ∧ Boxed W w.heap.size 22 (.slice a n c))) ∧ Below w3.heap.size w3 W)
    (fun _ _ _ => False)
    (OwnFrom.and (OwnFrom.and (Own.from (holdsRow_own w3.heap.size w3.heap.size 23 3 1 (fun pre : List Int => pre.length) (fun pre : List Int => pre.map (Value.int .i64)) (fun _ _ => True)) _) (OwnFrom.and (OwnFrom.and (Own.from (boxed_own _ _ _) _) (Own.from (boxed_own _ _ _) _)) (Own.from (boxed_own _ _ _) _))) (ownFrom_below (Nat.le_refl _) (by omega)))
    (fun _ _ _ _ _ hs _ _ => hs)
    ⟨⟨⟨_, bC.out, own_nil _ _ _ _, trivial⟩, ⟨bR.out, bO.out⟩, bM.out⟩, hB0.out⟩
    (fun x a' _ => a' = { tmps := #[.slice a n c, .slice ra rn rc, .pointer (some ⟨w.heap.size, 0, none⟩), undef, .pointer (some ⟨w.heap.size + 1, 0, none⟩), .pointer (some ⟨w.heap.size + 2, 0, none⟩), .func (.func 45) #[] #[.pointer (some ⟨Bn, 0, none⟩)], .int .i64 er, .pointer (some ⟨w3.heap.size, 0, none⟩), .int .i64 x, .tuple #[.func (.func 45) #[] #[.pointer (some ⟨Bn, 0, none⟩)], .int .i64 er], .slice a n c, .slice a1 n c1, .slice ra rn rc, .slice a2 rn c2, .tuple #[.func (.func 45) #[] #[.pointer (some ⟨Bn, 0, none⟩)], .int .i64 er], .func (.func 45) #[] #[.pointer (some ⟨Bn, 0, none⟩)], .int .i64 er, .func (.func 45) #[] #[.pointer (some ⟨Bn, 0, none⟩)], .bool false, .func (.func 45) #[] #[.pointer (some ⟨Bn, 0, none⟩)], .int .i64 x, undef, undef, undef, undef, undef, undef, undef, undef, undef, undef], defers := [] })
    (fun x a' _ X Y row hs hg hr => hs)
    ?assign ?body ?done ?stop
  case assign =>
    rintro l pre x W K ⟨⟨⟨v, bC1, hrow, _⟩, bR1, bM1⟩, hB1⟩ hK
    gi_wp2
    exact hK _ _ (KeepsFrom.refl _ _) (Kl.refl _ _ _) ⟨⟨⟨v, bC1, hrow, trivial⟩, bR1, bM1⟩, hB1⟩ rfl
  case body =>
    rintro l pre x a' W hl ⟨r, hr⟩ ⟨⟨⟨v, bC1, hrow, _⟩, ⟨bR1, bO1⟩, bM1⟩, hB1⟩ rfl hlt
    have hc := bC1.cell
    have cM := bM1.cell
    have hpl : pre.length + 1 ≤ n := by omega
    have hpl6 : pre.length + 1 ≤ 65536 := by omega
    have hxr : ∀ (j : Nat) (u : Value), [Value.int .i64 x][j]? = some u → (W.alloc (.cells #[.int .i64 x] 3)).cell? ((⟨W.heap.size, 0, none⟩ : Addr).add j) = some u := fun j u hu => by
      rw [Addr.add_lit, cell_of_row _ _ _ _ _ _ (heap_alloc_new W _), Nat.zero_add, ← hu]; simp
    have HX := hid hxr
    have HC1 := hid bC1
    have Hrow := hid hrow
    have HB1 := hid hB1
    have HR1 := hid bR1
    have HO1 := hid bO1
    have HM1 := hid bM1
    have hWs : w3.heap.size ≤ W.heap.size := hB1.size
    have hwl : w.heap.size < w3.heap.size := by omega
    have hwl1 : w.heap.size + 1 < w3.heap.size := by omega
    clear bC1 hrow hB1 bR1 bO1 bM1 hxr hr
    gi_wp2_with (gi_at_builtin; refine wpListIn_append_own _ rfl _ _ 23 rfl w3.heap.size 3 i0 _ 1 8 Try.underlying23 HI0.out HZ0.out hz1' hz2 rfl (by decide) _ _ _ rfl (Hrow.out.alloc _) ⟨W.heap.size, 0, none⟩ 1 1 [.int .i64 x] rfl rfl HX.out (by simp [Value.oneCell']) (by unfold maxLen; omega) (by omega) (by simp; omega) ?_; intro v' w2 hown' hgrow _; obtain ⟨g', cap', rfl⟩ := ownsRow_succ hown'; obtain ⟨hv1, hv2, hr2, hk2, hb2⟩ := HC1.out.appended (by decide) Hrow.out HB1.out.size (Nat.le_refl _) hown' hgrow; have hc1 := hv1.cell; have hf1 := hv1.frozen; have hc2 := hv2.cell; have cM2 : (w2.setCell ⟨w3.heap.size, 0, none⟩ (.slice (some ⟨g', 0, none⟩) (pre.length + 1) cap')).cell? ⟨w.heap.size, 0, none⟩ = some (.slice a n c) := (show Boxed _ _ _ _ from (hb2.block _ hwl).trans HM1.out).cell)
    refine ⟨hk2.from _, Kl.of_below hb2 hBlt hglt, ⟨⟨_, hv2, ?_, trivial⟩, ⟨(hb2.block _ hwl1).trans HR1.out, (hb2.block _ hz1).trans HO1.out⟩, (hb2.block _ hwl).trans HM1.out⟩, HB1.out.trans hb2⟩
    rw [List.map_append, List.length_append]
    exact hr2
  case done =>
    rintro D zs W hD rfl ⟨⟨⟨v, bC1, hrow, _⟩, ⟨bR1, bO1⟩, bM1⟩, hB1⟩ hK
    obtain ⟨av, cv, rfl, _⟩ := own_slice hrow
    have hc := bC1.cell
    have cR := bR1.cell
    have fR := bR1.frozen
    have cO := bO1.cell
    have fO := bO1.frozen
    have HB1 := hid hB1
    have HK := hid hK
    have HR1 := hid bR1
    have HO1 := hid bO1
    have Hrow := hid hrow
    have HD := hid hD
    clear hB1 hK bR1 bO1 hrow bC1 hD bM1
    gi_wp2
    have hK2 := ((KeepsOthers.setCell W ⟨w.heap.size + 1, 0, none⟩ (.slice av zs.length cv)).trans (KeepsOthers.setCell _ ⟨w.heap.size + 2, 0, none⟩ (.bool true))).same _ _ HK.out rfl
    refine ⟨by simp, .inl ⟨_, _, rfl, run_takeDeferred hK2, ?_⟩⟩
    have hP := grownBy_putObj' ((W.setCell ⟨w.heap.size + 1, 0, none⟩ (.slice av zs.length cv)).setCell ⟨w.heap.size + 2, 0, none⟩ (.bool true)) D (.deferred none)
    have hx1 := Ext.setCell [w.heap.size + 1] W ⟨w.heap.size + 1, 0, none⟩ (.slice av zs.length cv) (by simp)
    have hx2 := Ext.setCell [w.heap.size + 2] (W.setCell ⟨w.heap.size + 1, 0, none⟩ (.slice av zs.length cv)) ⟨w.heap.size + 2, 0, none⟩ (.bool true) (by simp)
    have hx3 := Ext.grown (S := [D]) hP (by simp)
    have hD2 := HD.out
    have hr1 : Boxed _ _ _ _ := hx3.keep (hx2.keep (HR1.out.set (.slice av zs.length cv)) (by simp)) (by simp; omega)
    have hr2 : Boxed _ _ _ _ := hx3.keep ((show Boxed _ _ _ _ from hx1.keep HO1.out (by simp)).set (.bool true)) (by simp; omega)
    have hE : Ext [] w W := HE4.out.trans (below_ext HB1.out)
    have hol := own_lt Hrow.out
    refine ⟨_, results_cells2 rfl _ _ ⟨w.heap.size + 1, 0, none⟩ ⟨w.heap.size + 2, 0, none⟩ _ _ rfl rfl (load23 hr1) (load4 hr2), _, rfl, ?_, ?_, ?_⟩
    · have h1 := own_keep Hrow.out hx1 (by simp; intro h; have := hol _ h; omega)
      have h2 := own_keep h1 hx2 (by simp; intro h; have := hol _ h; omega)
      have h3 := own_keep h2 hx3 (by
        intro b hb
        simp at hb
        subst hb
        intro h
        rcases h2.2 with ⟨h0, _⟩ | ⟨g, cap, cur, h0, _, hg, _⟩
        · rw [h0] at h; simp [Value.ownBlock] at h
        · rw [h0] at h
          simp [Value.ownBlock] at h
          subst h
          rw [hK2] at hg
          simp at hg)
      exact own_base h3 (Nat.zero_le _)
    · intro g hg
      have := (hol g hg).1
      omega
    · exact ((hE.on hx1 (by simp)).on hx2 (by simp)).on hx3 (by simp; omega)
  case stop =>
    rintro D c pre W _ _ h _
    exact h.elim

theorem told_bad (a : Option Addr) (n c : Nat) (ra : Option Addr) (rn rc : Nat) (M : List (List Int)) (R : List Int) (w : World) (hN : Nt w a M) (hn : M.length = n) (hR : Is w ra R) (hrn : R.length = rn) (hrb : rn ≤ 17592186044416) (h : errB M R [] ≠ 0) :
    Calls Try.prog 21 #[.slice a n c, .slice ra rn rc] w (ToldPost w []) :=
  told_of a n c ra rn rc M R (errB M R []) [] w hN hn hR hrn hrb (fun W a' c' ra' rc' h1 h2 => order_bad a' n c' ra' rn rc' M R W h1 hn h2 hrn hrb h) (by simp) (by simp)

/-! ### a search ends -/

theorem dfs_total {N : List (List Nat)} (hN : Net N) : ∀ (m k : Nat) (C : List Bool) (O : List Nat) (s : List (List Nat)), C.length = N.length → (∀ l ∈ s, Nodes N l) → C.count false ≤ m → (s.map fun l => l.length + 1).sum ≤ k → ∃ C' O', Dfs N C O s C' O' := by
  intro m
  induction m with
  | zero =>
    intro k
    induction k with
    | zero =>
      intro C O s _ _ _ hk
      cases s with
      | nil => exact ⟨C, O, .done _ _⟩
      | cons l s => simp at hk
    | succ k ih =>
      intro C O s hl hs hm hk
      cases s with
      | nil => exact ⟨C, O, .done _ _⟩
      | cons l s =>
        cases l with
        | nil =>
          obtain ⟨C', O', h⟩ := ih C O s hl (fun l h => hs l (by simp [h])) hm (by simp at hk; omega)
          exact ⟨C', O', .pop h⟩
        | cons x l =>
          have hx : x < C.length := by rw [hl]; exact hs (x :: l) (by simp) x (by simp)
          obtain ⟨C', O', h⟩ := ih C O (l :: s) hl (fun l' h => by
            simp only [List.mem_cons] at h
            rcases h with rfl | h
            · exact fun y hy => hs (x :: l') (by simp) y (by simp [hy])
            · exact hs l' (by simp [h])) hm (by simp at hk ⊢; omega)
          cases hc : C[x]
          · exfalso
            have := List.count_pos_iff.2 (hc ▸ List.getElem_mem hx)
            omega
          · exact ⟨C', O', .skip (by simp [hx, hc]) h⟩
  | succ m ihm =>
    intro k
    induction k with
    | zero =>
      intro C O s _ _ _ hk
      cases s with
      | nil => exact ⟨C, O, .done _ _⟩
      | cons l s => simp at hk
    | succ k ih =>
      intro C O s hl hs hm hk
      cases s with
      | nil => exact ⟨C, O, .done _ _⟩
      | cons l s =>
        cases l with
        | nil =>
          obtain ⟨C', O', h⟩ := ih C O s hl (fun l h => hs l (by simp [h])) hm (by simp at hk; omega)
          exact ⟨C', O', .pop h⟩
        | cons x l =>
          have hx : x < C.length := by rw [hl]; exact hs (x :: l) (by simp) x (by simp)
          have hs2 : ∀ l' ∈ l :: s, Nodes N l' := fun l' h => by
            simp only [List.mem_cons] at h
            rcases h with rfl | h
            · exact fun y hy => hs (x :: l') (by simp) y (by simp [hy])
            · exact hs l' (by simp [h])
          cases hc : C[x]
          · have hg : C[x]? = some false := by simp [hx, hc]
            have hcc := count_came hg
            obtain ⟨C', O', h⟩ := ihm _ (C.set x true) (O ++ [x]) (nxt N x :: l :: s) (by simpa using hl) (fun l' h => by
              simp only [List.mem_cons] at h
              rcases h with rfl | h
              · exact hN.nxt x
              · exact hs2 l' (by simpa using h)) (by omega) (Nat.le_refl _)
            exact ⟨C', O', .enter hg h⟩
          · obtain ⟨C', O', h⟩ := ih C O (l :: s) hl hs2 hm (by simp at hk ⊢; omega)
            exact ⟨C', O', .skip (by simp [hx, hc]) h⟩

theorem ord_exists {N : List (List Nat)} {R : List Nat} (hG : Good N R) (wo : Int) : ∃ O, Ord N R wo O := by
  obtain ⟨C', O', h⟩ := dfs_total hG.net _ _ (came0 N.length wo) [] [R] (came0_len _ _) (by simpa using hG.roots) (Nat.le_refl _) (Nat.le_refl _)
  exact ⟨O', ord_of hG.net hG.roots h⟩

theorem order_at {N : List (List Nat)} {R O : List Nat} (hO : Ord N R (-1) O) (a : Option Addr) (n c : Nat) (ra : Option Addr) (rn rc : Nat) (w : World) (hN : Nt w a (cn N)) (hn : N.length = n) (hG : Good N R) (hR : Is w ra (ci R)) (hrn : R.length = rn) (hrb : rn ≤ 17592186044416) :
    Calls Try.prog 20 #[.slice a n c, .slice ra rn rc] w (OrPost w (ci O) 0) := by
  refine (order_ok N R a n c ra rn rc w hN hn hG hR hrn hrb).mono ?_
  rintro e w' ⟨O', h1, h2⟩
  rw [hO.det h1]
  exact h2

theorem told_ok {N : List (List Nat)} {R O : List Nat} (hO : Ord N R (-1) O) (a : Option Addr) (n c : Nat) (ra : Option Addr) (rn rc : Nat) (w : World) (hN : Nt w a (cn N)) (hn : N.length = n) (hG : Good N R) (hR : Is w ra (ci R)) (hrn : R.length = rn) (hrb : rn ≤ 17592186044416) :
    Calls Try.prog 21 #[.slice a n c, .slice ra rn rc] w (ToldPost w (ci O)) :=
  told_of a n c ra rn rc (cn N) (ci R) 0 (ci O) w hN (by rw [cn_len]; exact hn) hR (by rw [ci_len]; exact hrn) hrb (fun W a' c' ra' rc' h1 h2 => order_at hO a' n c' ra' rn rc' W h1 hn hG h2 hrn hrb) (by rw [ci_len, ← hn]; exact hO.len) (by rw [ci_len]; have := hO.len; have := hG.len; omega)

end Go.Proofs.Ytfjabjnajcfamaa
