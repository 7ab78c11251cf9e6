/-
  DFou, DRun, DAwk: joined by program; no statement is proved here.
-/
import Derived.Test.YtkfagfdefkaenaaDoorZO
import Derived.Test.YtkfagfdefkaenaaDoorZG
import Derived.Test.YtkfagfdefkaenaaDoorZN
/-
  What is found in a directory, as the law asks it; no statement is proved here.
-/
namespace Go.Proofs.YtkfagfdefkaenaaDoor
open Go.RowKit Go.Shelf
open Pr (Gp GpI sq pl)
attribute [local go_sem] Oper.semAt_some run_store_func wide_fn wide_depth

set_option maxRecDepth 100000 in
set_option maxHeartbeats 4000000 in
theorem dfound_any (dp bt ct bs os cs n h : Nat) (A : List Tq) (t : Tq) (B : List Tq) (hD : Dq dp (A ++ t :: B)) (hTo : TabOf dp (A ++ t :: B) A t B h) (_hcs : 2 ^ dp ≤ cs) (hn : (A ++ t :: B).length = n) (hh : h < 18446744073709551616) (w : World) (hR : Dr w bt bs os dp (A ++ t :: B)) (hTb : Tb w) :
    Calls Tryd.prog 21 #[dv dp bt n ct bs os (2 ^ dp) cs, .int .u64 (h : Nat)] w (FoPost w (fnd t.T h t.G)) := by
  have hSd := hTo.ot.sd
  have hG := hSd.shp.gp.le
  have hml : (fnd t.T h t.G).length ≤ 8 * t.G := by unfold fnd; rw [List.length_map]; exact mts_len hSd.shp.gp
  have hn0 : 0 < n := by rw [← hn]; simp; omega
  obtain ⟨m, hm⟩ : ∃ m, 2 ^ dp = m := ⟨_, rfl⟩
  obtain ⟨z, hz⟩ : ∃ z, w.heap.size = z := ⟨_, rfl⟩
  obtain ⟨W0, hW0⟩ : ∃ W0, ((w.alloc (.cells #[.int .i64 (dp : Nat), .slice (some ⟨bt, 0, none⟩) n ct, .slice (some ⟨bs, os, none⟩) m cs] 27)).alloc (.cells #[.slice none 0 0] 22)).alloc (.cells #[.bool false] 4) = W0 := ⟨_, rfl⟩
  have hE0 : Ext [] w W0 := by rw [← hW0]; exact ((Ext.alloc [] _ _).trans (Ext.alloc [] _ _)).trans (Ext.alloc [] _ _)
  have b0 : W0.heap[z]? = some (.cells #[.int .i64 (dp : Nat), .slice (some ⟨bt, 0, none⟩) n ct, .slice (some ⟨bs, os, none⟩) m cs] 27) := by
    rw [← hW0, ← hz]; exact (Below.heap_alloc _ _ _ (by simp; omega)).trans ((Below.heap_alloc _ _ _ (by simp)).trans (heap_alloc_new w _))
  have b1 : Boxed W0 (z + 1) 22 (.slice none 0 0) := by
    have := (Boxed.new (w.alloc (.cells #[.int .i64 (dp : Nat), .slice (some ⟨bt, 0, none⟩) n ct, .slice (some ⟨bs, os, none⟩) m cs] 27)) 22 (.slice none 0 0)).alloc (.cells #[.bool false] 4)
    rw [hW0, World.size_alloc, hz] at this; exact this
  have b2 : Boxed W0 (z + 2) 4 (.bool false) := by
    have := Boxed.new ((w.alloc (.cells #[.int .i64 (dp : Nat), .slice (some ⟨bt, 0, none⟩) n ct, .slice (some ⟨bs, os, none⟩) m cs] 27)).alloc (.cells #[.slice none 0 0] 22)) 4 (.bool false)
    rw [hW0, World.size_alloc, World.size_alloc, hz] at this; exact this
  obtain ⟨a0, a1, a2⟩ := cells3 b0
  have K0 := copyDir_any dp bt ct bs os cs n _ hD hn hn0 W0 (hR.keep0 hE0)
  unfold dv at K0 ⊢
  rw [hm] at K0 ⊢
  have HE0 := hid hE0
  have Hb1 := hid b1
  have Hb2 := hid b2
  have HTb0 := hid (hTb.keep0 hE0)
  have HZ := hid hz
  have HD := hid hD
  have HTo := hid hTo
  have HN := hid hn
  clear hE0 b0 b1 b2 hR hTb hD hTo hn hSd
  generalize hLL : fnd t.T h t.G = LL at *
  refine (callsIn_wide (n := 14)).1 ?_
  refine callsIn_of_wp_marks Tryd.func21 rfl trivial ?_ rfl
  simp only [Tryd.ntmps21, List.size_toArray, List.length_cons, List.length_nil, Nat.reduceAdd, Nat.reduceSub, Array.replicate_succ, Array.replicate_zero, List.push_toArray, List.append_toArray, List.nil_append, List.cons_append]
  gi_wp2_with fail
  try rw [hW0]
  try simp only [hz]
  simp only [show z + 1 + 1 = z + 2 from rfl]
  clear hW0 hz
  gi_at_call 15
  refine (callsIn_wide.2 K0).mono ?_
  clear K0 a0 a1 a2
  rintro _ w1 ⟨bt1, ct1, bs1, cs1, rfl, hR1, hcs1, _, _, hX1⟩
  have K1 := dfind_any dp bt1 ct1 bs1 0 cs1 n h A t B HD.out HTo.out hcs1 HN.out hh w1 hR1 (HTb0.out.keep0 hX1)
  rw [hLL] at K1
  unfold dv at K1 ⊢
  rw [hm] at K1 ⊢
  have HX1 := hid hX1
  clear hX1 hR1
  gi_wp2_with fail
  gi_at_call 49
  refine (callsIn_wide.2 K1).mono ?_
  clear K1
  rintro _ w2 ⟨Bn, vi, rfl, hbn, hon, hBn, hX2⟩
  have hfn := fun W => eql_func_nil W 131 #[.pointer (some ⟨Bn, 0, none⟩)]
  have HX2 := hid (HX1.out.trans hX2)
  have hLi : Vl.Lst w2 vi LL := own_base hon (Nat.zero_le _)
  have HLi := hid hLi
  have Hbn := hid hbn
  clear hX2 HX1 hon hbn hLi hBn
  gi_wp2_with fail
  clear hfn
  have hEa := Ext.alloc [] w2 (.cells #[.slice none 0 0] 22)
  have hbn' := hEa.keep Hbn.out (by simp)
  have hLi' := HLi.out.keep0 hEa
  have bL := Boxed.new w2 22 (.slice none 0 0)
  have hB0 := hEa.below
  have hs3 : (w2.alloc (.cells #[.slice none 0 0] 22)).heap.size = w2.heap.size + 1 := by simp
  obtain ⟨z2, hz2⟩ : ∃ z2, w2.heap.size = z2 := ⟨_, rfl⟩
  obtain ⟨W3, hW3⟩ : ∃ W3, w2.alloc (.cells #[.slice none 0 0] 22) = W3 := ⟨_, rfl⟩
  rw [hW3] at hbn' hLi' bL hB0 hs3 ⊢
  rw [hz2] at bL hB0 hs3 ⊢
  have HZ2 := hid hz2
  have Ht1 := hid (show Boxed w2 (z + 1) 22 _ from HX2.out.keep Hb1.out (by simp))
  have Ht2 := hid (show Boxed w2 (z + 2) 4 _ from HX2.out.keep Hb2.out (by simp))
  have hzz2 : z + 2 < z2 := by rw [← hz2]; exact Ht2.out.lt
  have hBl : Bn < W3.heap.size := Boxed.lt hbn'
  have hvl : ∀ q, vi.ownBlock = some q → q < z2 := fun q hq => by rw [← hz2]; exact HLi.out.lt q hq
  have hBl2 : Bn < z2 := by rw [← hz2]; exact Hbn.out.lt
  have h3z : z2 + 1 ≤ W3.heap.size ∧ W3.heap.size ≤ z2 + 1 := by omega
  obtain ⟨i0, hi, hzz0, hz1', hz2'⟩ := info_parts info37
  have HI0 := hid hi
  have HZ0 := hid hzz0
  have HB0 := hid hB0
  clear hEa hW3 hz2 hs3 hi hzz0 Hb1 Hb2 hB0
  refine wpIn_rangeFunc_ownH rfl (by omega) (gf := 131) (lb := #[.pointer (some ⟨Bn, 0, none⟩)]) rfl trivial (enters_of Tryd.func131 (by kernel_rfl) rfl)
    (Vl.each_stops Fence.wide 13 trivial rfl (by omega) Bn vi LL (by omega) W3 hbn' hLi') Vl.klK_t (Vl.klK_b hBl (fun q hq => by have := hvl q hq; omega)) (Below.refl _ _) (fun _ => rfl)
    (fun pre W => (∃ v, Boxed W z2 22 v ∧ W.ownsRow z2 37 1 v pre.length (vw pre) ∧ True) ∧ Below z2 w2 W)
    (fun _ _ _ => False)
    (OwnFrom.and (Own.from (holdsRow_own z2 z2 22 37 1 (fun pre : List Nat => pre.length) (fun pre : List Nat => vw pre) (fun _ _ => True)) _) (ownFrom_below (by have := HZ2.out; omega) (by omega)))
    (fun _ _ _ _ _ hs _ _ => hs)
    ⟨⟨_, bL, own_nil _ _ _ _, trivial⟩, HB0.out⟩
    (fun x a' _ => a' = { tmps := #[.agg #[.int .i64 (dp : Nat), .slice (some ⟨bt, 0, none⟩) n ct, .slice (some ⟨bs, os, none⟩) m cs], .int .u64 (h : Nat), .pointer (some ⟨z, 0, none⟩), undef, .pointer (some ⟨z + 1, 0, none⟩), .pointer (some ⟨z + 2, 0, none⟩), .func (.func 131) #[] #[.pointer (some ⟨Bn, 0, none⟩)], .int .i64 0, .pointer (some ⟨z2, 0, none⟩), .int .u64 (x : Nat), .tuple #[.func (.func 131) #[] #[.pointer (some ⟨Bn, 0, none⟩)], .int .i64 0], .agg #[.int .i64 (dp : Nat), .slice (some ⟨bt, 0, none⟩) n ct, .slice (some ⟨bs, os, none⟩) m cs], .agg #[.int .i64 (dp : Nat), .slice (some ⟨bt1, 0, none⟩) n ct1, .slice (some ⟨bs1, 0, none⟩) m cs1], .int .u64 (h : Nat), .tuple #[.func (.func 131) #[] #[.pointer (some ⟨Bn, 0, none⟩)], .int .i64 0], .func (.func 131) #[] #[.pointer (some ⟨Bn, 0, none⟩)], .int .i64 0, .func (.func 131) #[] #[.pointer (some ⟨Bn, 0, none⟩)], .bool false, .func (.func 131) #[] #[.pointer (some ⟨Bn, 0, none⟩)], .int .u64 (x : Nat), undef, undef, undef, undef, undef, undef, undef, undef], defers := [] })
    (fun x a' _ X Y row hs hg hr => hs)
    ?assign ?body ?done ?stop
  case assign =>
    rintro l pre x W K hI hK
    gi_wp2
    exact hK _ _ (KeepsFrom.refl _ _) (Vl.Kl.refl _ _ _) hI rfl
  case stop =>
    rintro D cd pre W _ _ h _
    exact h.elim
  case body =>
    rintro l pre x a' W hl ⟨r, hr⟩ ⟨⟨v, bC1, hrow, _⟩, hB1⟩ rfl hlt
    have hc := bC1.cell
    have hpl : pre.length + 1 ≤ 8 * t.G := by omega
    have hpl6 : ¬ ((1000000 : Int) < (pre.length : Int) + 1) := by omega
    have hxr : ∀ (j : Nat) (u : Value), [Value.int .u64 (x : Nat)][j]? = some u → (W.alloc (.cells #[.int .u64 (x : Nat)] 37)).cell? ((⟨W.heap.size, 0, none⟩ : Addr).add j) = some u := fun j u hu => by
      rw [Addr.add_lit, cell_of_row _ _ _ _ _ _ (heap_alloc_new W _), Nat.zero_add, ← hu]; simp
    have HX := hid hxr
    have HC1 := hid bC1
    have Hrow := hid hrow
    have HB1 := hid hB1
    have hWs : z2 ≤ W.heap.size := by have := hB1.size; have := HZ2.out; omega
    clear bC1 hrow hB1 hxr hr bL hbn' hLi'
    gi_wp2_with (gi_at_builtin; refine wpListIn_append_own _ rfl _ _ 22 rfl z2 37 i0 _ 1 8 Tryd.underlying22 HI0.out HZ0.out hz1' hz2' rfl (by decide) _ _ _ rfl (Hrow.out.alloc _) ⟨W.heap.size, 0, none⟩ 1 1 [.int .u64 (x : Nat)] rfl rfl HX.out (by simp [Value.oneCell']) (by unfold maxLen; omega) (by omega) (by simp; omega) ?_; intro v' w3 hown' hgrow _; obtain ⟨g', cap', rfl⟩ := ownsRow_succ hown'; obtain ⟨hv1, hv2, hr2, hk2, hb2⟩ := HC1.out.appended (by decide) Hrow.out hWs (Nat.le_refl _) hown' hgrow; have hc1 := hv1.cell; have hf1 := hv1.frozen; have hc2 := hv2.cell)
    refine ⟨hk2.from _, Vl.Kl.of_below hb2 hBl2 hvl, ⟨_, hv2, ?_⟩, HB1.out.trans hb2⟩
    rw [vw_append, List.length_append]
    exact hr2
  case done =>
    rintro D zs W hD rfl ⟨⟨v, bC1, hrow, _⟩, hB1⟩ hK
    obtain ⟨av, cv, rfl, _⟩ := own_slice hrow
    have hc := bC1.cell
    have bR1 : Boxed W (z + 1) 22 (.slice none 0 0) := (hB1.block _ (by omega)).trans Ht1.out
    have bO1 : Boxed W (z + 2) 4 (.bool false) := (hB1.block _ (by omega)).trans Ht2.out
    have cR := bR1.cell
    have fR := bR1.frozen
    have hx1 := Ext.setCell [z + 1] W ⟨z + 1, 0, none⟩ (.slice av zs.length cv) (by simp)
    have bO1' : Boxed (W.setCell ⟨z + 1, 0, none⟩ (.slice av zs.length cv)) (z + 2) 4 (.bool false) := hx1.keep bO1 (by simp)
    have cO := bO1'.cell
    have fO := bO1'.frozen
    have HB1 := hid hB1
    have HK := hid hK
    have HR1 := hid bR1
    have HO1 := hid bO1'
    have Hrow := hid hrow
    have HD := hid hD
    have Hx1 := hid hx1
    clear hB1 hK bR1 bO1 bO1' hrow bC1 hD hx1
    gi_wp2_with fail
    have hK2 := ((KeepsOthers.setCell W ⟨z + 1, 0, none⟩ (.slice av zs.length cv)).trans (KeepsOthers.setCell _ ⟨z + 2, 0, none⟩ (.bool true))).same _ _ HK.out rfl
    refine ⟨by simp, .inl ⟨_, _, rfl, run_takeDeferred hK2, ?_⟩⟩
    have hP := grownBy_putObj' ((W.setCell ⟨z + 1, 0, none⟩ (.slice av zs.length cv)).setCell ⟨z + 2, 0, none⟩ (.bool true)) D (.deferred none)
    have hx2 := Ext.setCell [z + 2] (W.setCell ⟨z + 1, 0, none⟩ (.slice av zs.length cv)) ⟨z + 2, 0, none⟩ (.bool true) (by simp)
    have hx3 := Ext.grown (S := [D]) hP (by simp)
    have hD2 := HD.out
    have hr1 : Boxed _ _ _ _ := hx3.keep (hx2.keep (HR1.out.set (.slice av zs.length cv)) (by simp)) (by simp; omega)
    have hr2 : Boxed _ _ _ _ := hx3.keep (HO1.out.set (.bool true)) (by simp; omega)
    have hw2 : Ext [] w2 W := by have h := HB1.out; rw [← HZ2.out] at h; exact below_ext h
    have hE : Ext [] w W := (HE0.out.trans HX2.out).trans hw2
    have hol := own_lt Hrow.out
    have hzw := HZ.out
    refine ⟨_, results_cells2' rfl _ _ ⟨z + 1, 0, none⟩ ⟨z + 2, 0, none⟩ _ _ rfl rfl (load22' hr1) (load4 hr2), _, rfl, ?_, ?_⟩
    · have h1 := own_keep Hrow.out Hx1.out (by simp; intro h; have := hol _ h; omega)
      have h2 := own_keep h1 hx2 (by simp; intro h; have := hol _ h; omega)
      have h3 := own_keep h2 hx3 (by
        intro b hb
        simp at hb
        subst hb
        intro h
        rcases h2.2 with ⟨h0, _⟩ | ⟨g, cap, cur, h0, _, hg, _⟩
        · rw [h0] at h; simp [Value.ownBlock] at h
        · rw [h0] at h
          simp [Value.ownBlock] at h
          subst h
          rw [hK2] at hg
          simp at hg)
      exact own_base h3 (by omega)
    · exact ((hE.on Hx1.out (by simp; omega)).on hx2 (by simp; omega)).on hx3 (by simp; omega)
end Go.Proofs.YtkfagfdefkaenaaDoor

/-
  Scripts in plain words: what was put in and not taken out; no statement is proved here.
-/
namespace Go.Proofs.YtkfagfdefkaenaaDoor
open Go.RowKit

/-- An operation of a script. -/
structure Opq where
  del : Bool
  h : Nat
  d : Nat
/-- One operation, done or not. -/
def Stq (x : Opq) (b : Bool) (E E' : List (Nat × Nat)) : Prop :=
  match x.del, b with
  | true, true => E.Perm ((x.h, x.d) :: E')
  | true, false => E' = E ∧ E.count (x.h, x.d) = 0
  | false, true => E'.Perm ((x.h, x.d) :: E)
  | false, false => E' = E ∧ 14336 ≤ E.length
/-- A script is carried out: the last operation first. -/
def Run : List Opq → List Bool → List (Nat × Nat) → Prop
  | [], [], E => E = []
  | x :: S, b :: B, E' => ∃ E, Run S B E ∧ Stq x b E E'
  | _, _, _ => False
theorem Run.len : ∀ {S : List Opq} {B : List Bool} {E : List (Nat × Nat)}, Run S B E → S.length = B.length ∧ E.length ≤ S.length
  | [], [], E, h => by rw [show E = [] from h]; simp
  | x :: S, b :: B, E', h => by
    obtain ⟨E, h1, h2⟩ := h
    obtain ⟨e1, e2⟩ := Run.len h1
    refine ⟨by simp [e1], ?_⟩
    rw [List.length_cons]
    obtain ⟨dl, hx, dx⟩ := x
    cases dl <;> cases b
    · obtain ⟨rfl, _⟩ := h2; omega
    · have := List.Perm.length_eq h2; rw [List.length_cons] at this; omega
    · obtain ⟨rfl, _⟩ := h2; omega
    · have := List.Perm.length_eq h2; rw [List.length_cons] at this; omega
  | [], _ :: _, _, h => h.elim
  | _ :: _, [], _, h => h.elim
/-- How often an entry is there is told by the script and what was done. -/
theorem Run.uniq : ∀ {S : List Opq} {B : List Bool} {E F : List (Nat × Nat)}, Run S B E → Run S B F → ∀ p, E.count p = F.count p
  | [], [], E, F, h, k => fun p => by rw [show E = [] from h, show F = [] from k]
  | x :: S, b :: B, E', F', h, k => fun p => by
    obtain ⟨E, h1, h2⟩ := h
    obtain ⟨F, k1, k2⟩ := k
    have ih := Run.uniq h1 k1 p
    obtain ⟨dl, hx, dx⟩ := x
    cases dl <;> cases b
    · obtain ⟨rfl, _⟩ := h2; obtain ⟨rfl, _⟩ := k2; exact ih
    · have a1 := List.Perm.count_eq h2 p
      have a2 := List.Perm.count_eq k2 p
      rw [List.count_cons] at a1 a2
      omega
    · obtain ⟨rfl, _⟩ := h2; obtain ⟨rfl, _⟩ := k2; exact ih
    · have a1 := List.Perm.count_eq h2 p
      have a2 := List.Perm.count_eq k2 p
      rw [List.count_cons] at a1 a2
      omega
  | [], _ :: _, _, _, h, _ => h.elim
  | _ :: _, [], _, _, h, _ => h.elim
/-- Every entry was put in by an operation. -/
theorem Run.mem : ∀ {S : List Opq} {B : List Bool} {E : List (Nat × Nat)}, Run S B E → ∀ p ∈ E, ∃ x ∈ S, (x.h, x.d) = p
  | [], [], E, h, p, hp => by rw [show E = [] from h] at hp; cases hp
  | x :: S, b :: B, E', h, p, hp => by
    obtain ⟨E, h1, h2⟩ := h
    have ih := Run.mem h1 p
    have key : p ∈ E ∨ p = (x.h, x.d) := by
      obtain ⟨dl, hx, dx⟩ := x
      cases dl <;> cases b
      · obtain ⟨rfl, _⟩ := h2; exact .inl hp
      · rcases List.mem_cons.1 ((List.Perm.mem_iff h2).1 hp) with q | q
        · exact .inr q
        · exact .inl q
      · obtain ⟨rfl, _⟩ := h2; exact .inl hp
      · exact .inl ((List.Perm.mem_iff h2).2 (List.mem_cons_of_mem _ hp))
    rcases key with q | q
    · obtain ⟨y, hy, e⟩ := ih q
      exact ⟨y, List.mem_cons_of_mem _ hy, e⟩
    · exact ⟨x, List.mem_cons_self, q.symm⟩
  | [], _ :: _, _, h, _, _ => h.elim
  | _ :: _, [], _, h, _, _ => h.elim
/-- Those of the entries that one of these operations names. -/
def nam (S : List Opq) (E : List (Nat × Nat)) : Nat := E.countP fun p => S.any fun x => decide ((x.h, x.d) = p)
theorem nam_nil (E : List (Nat × Nat)) : nam [] E = 0 := by unfold nam; simp
theorem nam_old {S : List Opq} {E : List (Nat × Nat)} {x : Opq} (h : ∃ y ∈ S, (y.h, y.d) = (x.h, x.d)) : nam (S ++ [x]) E = nam S E := by
  unfold nam
  congr 1
  funext p
  rw [List.any_append]
  by_cases q : (x.h, x.d) = p
  · obtain ⟨y, hy, e⟩ := h
    have : S.any (fun x => decide ((x.h, x.d) = p)) = true := List.any_eq_true.2 ⟨y, hy, by simp [e, q]⟩
    rw [this]; rfl
  · simp [q]
theorem nam_new {S : List Opq} {x : Opq} (h : ¬ ∃ y ∈ S, (y.h, y.d) = (x.h, x.d)) : ∀ E : List (Nat × Nat), nam (S ++ [x]) E = nam S E + E.count (x.h, x.d)
  | [] => by simp [nam]
  | p :: E => by
    have ih := nam_new h E
    unfold nam at ih ⊢
    rw [List.countP_cons, List.countP_cons, List.count_cons, ih]
    by_cases q : p = (x.h, x.d)
    · subst q
      have h0 : S.any (fun y => decide ((y.h, y.d) = (x.h, x.d))) = false := by
        rw [List.any_eq_false]
        intro y hy
        simp only [decide_eq_true_eq]
        exact fun e => h ⟨y, hy, e⟩
      have h1 : (S ++ [x]).any (fun y => decide ((y.h, y.d) = (x.h, x.d))) = true := by rw [List.any_append]; simp
      rw [h0, h1]
      simp
      omega
    · have h1 : (S ++ [x]).any (fun y => decide ((y.h, y.d) = p)) = S.any (fun y => decide ((y.h, y.d) = p)) := by
        rw [List.any_append]
        simp [show ¬ (x.h, x.d) = p from fun e => q e.symm]
      have h2 : (p == (x.h, x.d)) = false := by simpa using q
      rw [h1, h2]
      simp
      omega
theorem nam_all {S : List Opq} {E : List (Nat × Nat)} (h : ∀ p ∈ E, ∃ x ∈ S, (x.h, x.d) = p) : nam S E = E.length := by
  unfold nam
  rw [List.countP_eq_length]
  intro p hp
  obtain ⟨x, hx, e⟩ := h p hp
  exact List.any_eq_true.2 ⟨x, hx, by simp [e]⟩
end Go.Proofs.YtkfagfdefkaenaaDoor

/-
  The law's awake; no statement is proved here.
-/
namespace Go.Proofs.YtkfagfdefkaenaaDoor
open Go.RowKit Go.Shelf
open Pr (Gp GpI sq pl)
attribute [local go_sem] Oper.semAt_some run_store_func

set_option maxRecDepth 100000 in
theorem sound_none (w : World) : Calls Tryd.prog 31 #[nodir] w (SayPost w (.bool false)) := by
  unfold nodir
  go_enter Tryd.func31, Tryd.ntmps31
  go_wp2_with fail
  go_quiet (fail)
  go_wp2_with fail
  go_ret
  exact ⟨rfl, (Ext.alloc [] w _).trans (Ext.drewN [] _ _)⟩
set_option maxRecDepth 100000 in
theorem check_none (w : World) : Calls Tryd.prog 24 #[nodir] w (SayPost w (.int .i64 1)) := by
  have K := sound_none (w.alloc (.cells #[.int .i64 0, .slice none 0 0, .slice none 0 0] 27))
  have hE := Ext.alloc [] w (.cells #[.int .i64 0, .slice none 0 0, .slice none 0 0] 27)
  unfold nodir at K ⊢
  have HE := hid hE
  clear hE
  go_enter Tryd.func24, Tryd.ntmps24
  go_wp2_with fail
  refine K.mono ?_
  clear K
  rintro _ w1 ⟨rfl, hE1⟩
  have HE1 := hid (HE.out.trans hE1)
  clear hE1
  go_wp2_with fail
  go_ret
  exact ⟨rfl, HE1.out⟩
set_option maxRecDepth 100000 in
set_option maxHeartbeats 4000000 in
theorem awake_any (w : World) : Calls Tryd.prog 8 #[] w (SayPost w (.bool true)) := by
  have K := dnew_any w
  go_enter Tryd.func8, Tryd.ntmps8
  go_wp2_with fail
  refine K.mono ?_
  clear K
  rintro _ w1 ⟨v, L', rfl, _, _, _, ⟨bt, ct, bs, cs, rfl⟩, hE1⟩
  have HE1 := hid hE1
  have K2 := check_none
  unfold nodir at K2
  clear hE1
  go_wp2_with fail
  refine (K2 _).mono ?_
  clear K2
  rintro _ w2 ⟨rfl, hE2⟩
  have HE2 := hid ((HE1.out.trans (Ext.alloc [] _ _)).trans hE2)
  clear hE2
  go_wp2_with fail
  go_ret
  exact ⟨rfl, HE2.out⟩
end Go.Proofs.YtkfagfdefkaenaaDoor
