/-
  FouN, DelN: joined by program; no statement is proved here.
-/
import Derived.Test.YtkknadkcpndnaaaDoorZWA
import Derived.Test.YtkknadkcpndnaaaDoorZP
import Derived.Test.YtkknadkcpndnaaaDoorZJ
/-
  What Check, Len, Find, All, Insert, Delete and Grow answer of words that are no table; no statement is proved here.
-/
namespace Go.Proofs.YtkknadkcpndnaaaDoor
open Go.RowKit Go.Shelf
open Pr (Gp GpI sq pl)
attribute [local go_sem] Oper.semAt_some run_store_func wide_fn wide_depth

/-- Words that are no table. -/
structure Ntb (T : List Nat) (n : Nat) : Prop where
  len : T.length = n
  le : n ≤ 17592186044416
  lt : ∀ x ∈ T, x < 18446744073709551616
  no : ∀ G, ¬ Sd T G
theorem check_no (a : Option Addr) (n c : Nat) (T : List Nat) (hN : Ntb T n) (w : World) (hT : Wd w a T) : Calls Tryd.prog 11 #[.slice a n c] w (SayPost w (.int .i64 1)) := by
  have K := fun u (hu : Ext [] w u) => sound_no a n c T hN.len hN.le hN.lt hN.no u (hT.keep0 hu)
  clear hT hN
  go_enter Tryd.func11, Tryd.ntmps11
  go_wp2_with fail
  refine (K _ (Ext.refl [] _)).mono ?_
  clear K
  rintro _ w1 ⟨rfl, hX⟩
  have HX := hid (hX)
  clear hX
  go_wp2
  go_ret
  exact ⟨rfl, HX.out⟩
theorem len_no (a : Option Addr) (n c : Nat) (T : List Nat) (hN : Ntb T n) (w : World) (hT : Wd w a T) : Calls Tryd.prog 13 #[.slice a n c] w (SayPost w (.tuple #[.int .i64 0, .int .i64 1])) := by
  have K := fun u (hu : Ext [] w u) => sound_no a n c T hN.len hN.le hN.lt hN.no u (hT.keep0 hu)
  clear hT hN
  go_enter Tryd.func13, Tryd.ntmps13
  go_wp2_with fail
  refine (K _ (Ext.refl [] _)).mono ?_
  clear K
  rintro _ w1 ⟨rfl, hX⟩
  have HX := hid (hX)
  clear hX
  go_wp2
  go_ret2
  exact ⟨rfl, HX.out⟩
theorem find_no (a : Option Addr) (n c h : Nat) (T : List Nat) (hN : Ntb T n) (w : World) (hT : Wd w a T) : Calls Tryd.prog 32 #[.slice a n c, .int .u64 (h : Nat)] w (SayPost w (.tuple #[.func (.func 53) #[] #[], .int .i64 1])) := by
  have K := fun u (hu : Ext [] w u) => sound_no a n c T hN.len hN.le hN.lt hN.no u (hT.keep0 hu)
  clear hT hN
  go_enter Tryd.func32, Tryd.ntmps32
  go_wp2_with fail
  refine (K _ (Ext.alloc [] _ _)).mono ?_
  clear K
  rintro _ w1 ⟨rfl, hX⟩
  have HX := hid ((Ext.alloc [] w _).trans hX)
  clear hX
  go_wp2
  go_ret2
  exact ⟨rfl, HX.out⟩
theorem tall_no (a : Option Addr) (n c : Nat) (T : List Nat) (hN : Ntb T n) (w : World) (hT : Wd w a T) : Calls Tryd.prog 33 #[.slice a n c] w (SayPost w (.tuple #[.func (.func 55) #[] #[], .int .i64 1])) := by
  have K := fun u (hu : Ext [] w u) => sound_no a n c T hN.len hN.le hN.lt hN.no u (hT.keep0 hu)
  clear hT hN
  go_enter Tryd.func33, Tryd.ntmps33
  go_wp2_with fail
  refine (K _ (Ext.refl [] _)).mono ?_
  clear K
  rintro _ w1 ⟨rfl, hX⟩
  have HX := hid (hX)
  clear hX
  go_wp2
  go_ret2
  exact ⟨rfl, HX.out⟩
/-- No ids. -/
def FnPost (w : World) (e : Ending) (w' : World) : Prop := ∃ a c, e = .returned (.tuple #[.slice a 0 c, .bool true]) ∧ Ext [] w w'
theorem tins_no (a : Option Addr) (n c h d : Nat) (T : List Nat) (hN : Ntb T n) (w : World) (hT : Wd w a T) : Calls Tryd.prog 16 #[.slice a n c, .int .u64 (h : Nat), .int .u64 (d : Nat)] w (SayPost w (.tuple #[.slice none 0 0, .int .i64 1])) := by
  have K := sound_no a n c T hN.len hN.le hN.lt hN.no w hT
  clear hT hN
  go_enter Tryd.func16, Tryd.ntmps16
  go_wp2_with fail
  refine K.mono ?_
  clear K
  rintro _ w1 ⟨rfl, hX⟩
  have HX := hid hX
  clear hX
  go_wp2
  go_ret2
  exact ⟨rfl, HX.out⟩
theorem none53 (F : Fence) (n : Nat) (h : F.fn 53) (hro : F.round = none) (w : World) :
    SeqStopsK F n Tryd.prog 53 #[] (fun x : Nat => #[Value.int .u64 (x : Nat)]) (fun _ _ => True) (fun ys => ys = []) (fun pre => pre <+: []) 0 w := fun l J Jx W hW _ _ hY h0 => by
  refine callsIn_of_wp Tryd.func53 rfl h ?_ hro
  simp only [Tryd.ntmps53, List.size_toArray, List.length_cons, List.length_nil, Nat.reduceAdd, Nat.reduceSub, Array.replicate_succ, Array.replicate_zero, List.push_toArray, List.append_toArray, List.nil_append, List.cons_append]
  gi_wp2
  go_end0
  exact ⟨⟨_, rfl⟩, .inl h0⟩
theorem none55 (F : Fence) (n : Nat) (h : F.fn 55) (hro : F.round = none) (w : World) :
    SeqStopsK F n Tryd.prog 55 #[] (fun x : Nat × Nat => #[Value.int .u64 (x.1 : Nat), Value.int .u64 (x.2 : Nat)]) (fun _ _ => True) (fun ys => ys = []) (fun pre => pre <+: []) 0 w := fun l J Jx W hW _ _ hY h0 => by
  refine callsIn_of_wp Tryd.func55 rfl h ?_ hro
  simp only [Tryd.ntmps55, List.size_toArray, List.length_cons, List.length_nil, Nat.reduceAdd, Nat.reduceSub, Array.replicate_succ, Array.replicate_zero, List.push_toArray, List.append_toArray, List.nil_append, List.cons_append]
  gi_wp2
  go_end0
  exact ⟨⟨_, rfl⟩, .inl h0⟩

set_option maxRecDepth 100000 in
set_option maxHeartbeats 4000000 in
theorem found_no (a : Option Addr) (n c h : Nat) (T : List Nat) (hN : Ntb T n) (w : World) (hT : Wd w a T) : Calls Tryd.prog 14 #[.slice a n c, .int .u64 (h : Nat)] w (FnPost w) := by
  refine (callsIn_wide (n := 14)).1 ?_
  refine callsIn_of_wp_marks Tryd.func14 rfl trivial ?_ rfl
  simp only [Tryd.ntmps14, List.size_toArray, List.length_cons, List.length_nil, Nat.reduceAdd, Nat.reduceSub, Array.replicate_succ, Array.replicate_zero, List.push_toArray, List.append_toArray, List.nil_append, List.cons_append]
  obtain ⟨z, hz⟩ : ∃ z, w.heap.size = z := ⟨_, rfl⟩
  obtain ⟨W0, hW0⟩ : ∃ W0, ((w.alloc (.cells #[.slice a n c] 22)).alloc (.cells #[.slice none 0 0] 22)).alloc (.cells #[.bool false] 4) = W0 := ⟨_, rfl⟩
  have hE0 : Ext [] w W0 := by rw [← hW0]; exact ((Ext.alloc [] _ _).trans (Ext.alloc [] _ _)).trans (Ext.alloc [] _ _)
  have b0 : Boxed W0 z 22 (.slice a n c) := by rw [← hW0, ← hz]; exact ((Boxed.new w 22 _).alloc _).alloc _
  have b1 : Boxed W0 (z + 1) 22 (.slice none 0 0) := by
    have := (Boxed.new (w.alloc (.cells #[.slice a n c] 22)) 22 (.slice none 0 0)).alloc (.cells #[.bool false] 4)
    rw [hW0, World.size_alloc, hz] at this; exact this
  have b2 : Boxed W0 (z + 2) 4 (.bool false) := by
    have := Boxed.new ((w.alloc (.cells #[.slice a n c] 22)).alloc (.cells #[.slice none 0 0] 22)) 4 (.bool false)
    rw [hW0, World.size_alloc, World.size_alloc, hz] at this; exact this
  have cZ := b0.cell
  have K0 := own_any a n c T W0 (hT.keep0 hE0) hN.len hN.le
  have HE0 := hid hE0
  have Hb0 := hid b0
  have Hb1 := hid b1
  have Hb2 := hid b2
  have HN := hid hN
  have HZ := hid hz
  clear hE0 b0 b1 b2 hT hN
  gi_wp2_with fail
  try rw [hW0]
  try simp only [hz]
  try simp only [show z + 1 + 1 = z + 2 from rfl]
  clear hW0 hz
  gi_at_call 12
  refine (callsIn_wide.2 K0).mono ?_
  clear K0 cZ
  rintro _ w1 ⟨a1, c1, rfl, ho1, hX1⟩
  rw [HN.out.len] at ho1 ⊢
  have K1 := find_no a1 n c1 h T HN.out w1 (own_vs ho1)
  have HX1 := hid hX1
  clear hX1 ho1
  gi_wp2_with fail
  gi_at_call 32
  refine (callsIn_wide.2 K1).mono ?_
  clear K1
  rintro _ w2 ⟨rfl, hX2⟩
  have hfn := fun W => eql_func_nil W 53 #[]
  have HX2 := hid (HX1.out.trans hX2)
  clear hX2 HX1
  gi_wp2_with fail
  clear hfn
  have hEa := Ext.alloc [] w2 (.cells #[.slice none 0 0] 22)
  have bL := Boxed.new w2 22 (.slice none 0 0)
  have hB0 := hEa.below
  obtain ⟨z2, hz2⟩ : ∃ z2, w2.heap.size = z2 := ⟨_, rfl⟩
  obtain ⟨W3, hW3⟩ : ∃ W3, w2.alloc (.cells #[.slice none 0 0] 22) = W3 := ⟨_, rfl⟩
  have hs3 : W3.heap.size = z2 + 1 := by rw [← hW3]; simp [hz2]
  rw [hW3] at bL hB0 ⊢
  rw [hz2] at bL hB0 ⊢
  have HZ2 := hid hz2
  have Ht1 := hid (show Boxed w2 (z + 1) 22 _ from HX2.out.keep Hb1.out (by simp))
  have Ht2 := hid (show Boxed w2 (z + 2) 4 _ from HX2.out.keep Hb2.out (by simp))
  have hzz2 : z + 2 < z2 := by rw [← hz2]; exact Ht2.out.lt
  have HB0 := hid hB0
  clear hEa hW3 hz2 Hb0 Hb1 Hb2 hB0
  refine wpIn_rangeFunc_ownH rfl (by omega) (gf := 53) (lb := #[]) rfl trivial (enters_of Tryd.func53 (by kernel_rfl) rfl)
    (none53 Fence.wide 13 trivial rfl W3) (fun _ _ => trivial) (fun _ _ _ _ _ _ _ _ => trivial) (Below.refl _ _) (fun _ => rfl)
    (fun pre W => (∃ v, Boxed W z2 22 v ∧ W.ownsRow z2 23 1 v 0 [] ∧ True) ∧ Below z2 w2 W)
    (fun _ _ _ => False)
    (OwnFrom.and (Own.from (holdsRow_own z2 z2 22 23 1 (fun _ : List (Nat) => 0) (fun _ : List (Nat) => []) (fun _ _ => True)) _) (ownFrom_below (by have := HZ2.out; omega) (by omega)))
    (fun _ _ _ _ _ hs _ _ => hs)
    ⟨⟨_, bL, own_nil _ _ _ _, trivial⟩, HB0.out⟩
    (fun _ _ _ => True)
    (fun x a' _ X Y row hs hg hr => hs)
    ?assign ?body ?done ?stop
  case assign =>
    rintro l pre x W K hI hK
    gi_wp2
    exact hK _ _ (KeepsFrom.refl _ _) trivial hI trivial
  case stop =>
    rintro D cd pre W _ _ h _
    exact h.elim
  case body =>
    rintro l pre x a' W hl ⟨r, hr⟩ hI _ hlt
    exact absurd hlt (by omega)
  case done =>
    rintro D zs W hD rfl ⟨⟨v, bC1, hrow, _⟩, hB1⟩ hK
    obtain ⟨av, cv, rfl, _⟩ := own_slice hrow
    have hc := bC1.cell
    have bR1 : Boxed W (z + 1) 22 (.slice none 0 0) := (hB1.block _ (by omega)).trans Ht1.out
    have bO1 : Boxed W (z + 2) 4 (.bool false) := (hB1.block _ (by omega)).trans Ht2.out
    have cR := bR1.cell
    have fR := bR1.frozen
    have hx1 := Ext.setCell [z + 1] W ⟨z + 1, 0, none⟩ (.slice av 0 cv) (by simp)
    have bO1' : Boxed (W.setCell ⟨z + 1, 0, none⟩ (.slice av 0 cv)) (z + 2) 4 (.bool false) := hx1.keep bO1 (by simp)
    have cO := bO1'.cell
    have fO := bO1'.frozen
    have HB1 := hid hB1
    have HK := hid hK
    have HR1 := hid bR1
    have HO1 := hid bO1'
    have HD := hid hD
    have Hx1 := hid hx1
    clear hB1 hK bR1 bO1 bO1' bC1 hD hx1 hrow
    gi_wp2_with fail
    have hK2 := ((KeepsOthers.setCell W ⟨z + 1, 0, none⟩ (.slice av 0 cv)).trans (KeepsOthers.setCell _ ⟨z + 2, 0, none⟩ (.bool true))).same _ _ HK.out rfl
    refine ⟨by simp, .inl ⟨_, _, rfl, run_takeDeferred hK2, ?_⟩⟩
    have hP := grownBy_putObj' ((W.setCell ⟨z + 1, 0, none⟩ (.slice av 0 cv)).setCell ⟨z + 2, 0, none⟩ (.bool true)) D (.deferred none)
    have hx2 := Ext.setCell [z + 2] (W.setCell ⟨z + 1, 0, none⟩ (.slice av 0 cv)) ⟨z + 2, 0, none⟩ (.bool true) (by simp)
    have hx3 := Ext.grown (S := [D]) hP (by simp)
    have hD2 := HD.out
    have hr1 : Boxed _ _ _ _ := hx3.keep (hx2.keep (HR1.out.set (.slice av 0 cv)) (by simp)) (by simp; omega)
    have hr2 : Boxed _ _ _ _ := hx3.keep (HO1.out.set (.bool true)) (by simp; omega)
    have hw2 : Ext [] w2 W := by have h := HB1.out; rw [← HZ2.out] at h; exact below_ext h
    have hE : Ext [] w W := (HE0.out.trans HX2.out).trans hw2
    have hzw := HZ.out
    refine ⟨_, results_cells2' rfl _ _ ⟨z + 1, 0, none⟩ ⟨z + 2, 0, none⟩ _ _ rfl rfl (load22' hr1) (load4 hr2), _, _, rfl, ?_⟩
    exact ((hE.on Hx1.out (by simp; omega)).on hx2 (by simp; omega)).on hx3 (by simp; omega)

set_option maxRecDepth 100000 in
set_option maxHeartbeats 4000000 in
theorem pairs_no (a : Option Addr) (n c : Nat) (T : List Nat) (hN : Ntb T n) (w : World) (hT : Wd w a T) : Calls Tryd.prog 15 #[.slice a n c] w (FnPost w) := by
  refine (callsIn_wide (n := 14)).1 ?_
  refine callsIn_of_wp_marks Tryd.func15 rfl trivial ?_ rfl
  simp only [Tryd.ntmps15, List.size_toArray, List.length_cons, List.length_nil, Nat.reduceAdd, Nat.reduceSub, Array.replicate_succ, Array.replicate_zero, List.push_toArray, List.append_toArray, List.nil_append, List.cons_append]
  obtain ⟨z, hz⟩ : ∃ z, w.heap.size = z := ⟨_, rfl⟩
  obtain ⟨W0, hW0⟩ : ∃ W0, ((w.alloc (.cells #[.slice a n c] 22)).alloc (.cells #[.slice none 0 0] 22)).alloc (.cells #[.bool false] 4) = W0 := ⟨_, rfl⟩
  have hE0 : Ext [] w W0 := by rw [← hW0]; exact ((Ext.alloc [] _ _).trans (Ext.alloc [] _ _)).trans (Ext.alloc [] _ _)
  have b0 : Boxed W0 z 22 (.slice a n c) := by rw [← hW0, ← hz]; exact ((Boxed.new w 22 _).alloc _).alloc _
  have b1 : Boxed W0 (z + 1) 22 (.slice none 0 0) := by
    have := (Boxed.new (w.alloc (.cells #[.slice a n c] 22)) 22 (.slice none 0 0)).alloc (.cells #[.bool false] 4)
    rw [hW0, World.size_alloc, hz] at this; exact this
  have b2 : Boxed W0 (z + 2) 4 (.bool false) := by
    have := Boxed.new ((w.alloc (.cells #[.slice a n c] 22)).alloc (.cells #[.slice none 0 0] 22)) 4 (.bool false)
    rw [hW0, World.size_alloc, World.size_alloc, hz] at this; exact this
  have cZ := b0.cell
  have K0 := own_any a n c T W0 (hT.keep0 hE0) hN.len hN.le
  have HE0 := hid hE0
  have Hb0 := hid b0
  have Hb1 := hid b1
  have Hb2 := hid b2
  have HN := hid hN
  have HZ := hid hz
  clear hE0 b0 b1 b2 hT hN
  gi_wp2_with fail
  try rw [hW0]
  try simp only [hz]
  try simp only [show z + 1 + 1 = z + 2 from rfl]
  clear hW0 hz
  gi_at_call 12
  refine (callsIn_wide.2 K0).mono ?_
  clear K0 cZ
  rintro _ w1 ⟨a1, c1, rfl, ho1, hX1⟩
  rw [HN.out.len] at ho1 ⊢
  have K1 := tall_no a1 n c1 T HN.out w1 (own_vs ho1)
  have HX1 := hid hX1
  clear hX1 ho1
  gi_wp2_with fail
  gi_at_call 33
  refine (callsIn_wide.2 K1).mono ?_
  clear K1
  rintro _ w2 ⟨rfl, hX2⟩
  have hfn := fun W => eql_func_nil66 W 55 #[]
  have HX2 := hid (HX1.out.trans hX2)
  clear hX2 HX1
  gi_wp2_with fail
  clear hfn
  have hEa := Ext.alloc [] w2 (.cells #[.slice none 0 0] 22)
  have bL := Boxed.new w2 22 (.slice none 0 0)
  have hB0 := hEa.below
  obtain ⟨z2, hz2⟩ : ∃ z2, w2.heap.size = z2 := ⟨_, rfl⟩
  obtain ⟨W3, hW3⟩ : ∃ W3, w2.alloc (.cells #[.slice none 0 0] 22) = W3 := ⟨_, rfl⟩
  have hs3 : W3.heap.size = z2 + 1 := by rw [← hW3]; simp [hz2]
  rw [hW3] at bL hB0 ⊢
  rw [hz2] at bL hB0 ⊢
  have HZ2 := hid hz2
  have Ht1 := hid (show Boxed w2 (z + 1) 22 _ from HX2.out.keep Hb1.out (by simp))
  have Ht2 := hid (show Boxed w2 (z + 2) 4 _ from HX2.out.keep Hb2.out (by simp))
  have hzz2 : z + 2 < z2 := by rw [← hz2]; exact Ht2.out.lt
  have HB0 := hid hB0
  clear hEa hW3 hz2 Hb0 Hb1 Hb2 hB0
  refine wpIn_rangeFunc_ownH rfl (by omega) (gf := 55) (lb := #[]) rfl trivial (enters_of Tryd.func55 (by kernel_rfl) rfl)
    (none55 Fence.wide 13 trivial rfl W3) (fun _ _ => trivial) (fun _ _ _ _ _ _ _ _ => trivial) (Below.refl _ _) (fun _ => rfl)
    (fun pre W => (∃ v, Boxed W z2 22 v ∧ W.ownsRow z2 23 1 v 0 [] ∧ True) ∧ Below z2 w2 W)
    (fun _ _ _ => False)
    (OwnFrom.and (Own.from (holdsRow_own z2 z2 22 23 1 (fun _ : List (Nat × Nat) => 0) (fun _ : List (Nat × Nat) => []) (fun _ _ => True)) _) (ownFrom_below (by have := HZ2.out; omega) (by omega)))
    (fun _ _ _ _ _ hs _ _ => hs)
    ⟨⟨_, bL, own_nil _ _ _ _, trivial⟩, HB0.out⟩
    (fun _ _ _ => True)
    (fun x a' _ X Y row hs hg hr => hs)
    ?assign ?body ?done ?stop
  case assign =>
    rintro l pre x W K hI hK
    gi_wp2
    exact hK _ _ (KeepsFrom.refl _ _) trivial hI trivial
  case stop =>
    rintro D cd pre W _ _ h _
    exact h.elim
  case body =>
    rintro l pre x a' W hl ⟨r, hr⟩ hI _ hlt
    exact absurd hlt (by omega)
  case done =>
    rintro D zs W hD rfl ⟨⟨v, bC1, hrow, _⟩, hB1⟩ hK
    obtain ⟨av, cv, rfl, _⟩ := own_slice hrow
    have hc := bC1.cell
    have bR1 : Boxed W (z + 1) 22 (.slice none 0 0) := (hB1.block _ (by omega)).trans Ht1.out
    have bO1 : Boxed W (z + 2) 4 (.bool false) := (hB1.block _ (by omega)).trans Ht2.out
    have cR := bR1.cell
    have fR := bR1.frozen
    have hx1 := Ext.setCell [z + 1] W ⟨z + 1, 0, none⟩ (.slice av 0 cv) (by simp)
    have bO1' : Boxed (W.setCell ⟨z + 1, 0, none⟩ (.slice av 0 cv)) (z + 2) 4 (.bool false) := hx1.keep bO1 (by simp)
    have cO := bO1'.cell
    have fO := bO1'.frozen
    have HB1 := hid hB1
    have HK := hid hK
    have HR1 := hid bR1
    have HO1 := hid bO1'
    have HD := hid hD
    have Hx1 := hid hx1
    clear hB1 hK bR1 bO1 bO1' bC1 hD hx1 hrow
    gi_wp2_with fail
    have hK2 := ((KeepsOthers.setCell W ⟨z + 1, 0, none⟩ (.slice av 0 cv)).trans (KeepsOthers.setCell _ ⟨z + 2, 0, none⟩ (.bool true))).same _ _ HK.out rfl
    refine ⟨by simp, .inl ⟨_, _, rfl, run_takeDeferred hK2, ?_⟩⟩
    have hP := grownBy_putObj' ((W.setCell ⟨z + 1, 0, none⟩ (.slice av 0 cv)).setCell ⟨z + 2, 0, none⟩ (.bool true)) D (.deferred none)
    have hx2 := Ext.setCell [z + 2] (W.setCell ⟨z + 1, 0, none⟩ (.slice av 0 cv)) ⟨z + 2, 0, none⟩ (.bool true) (by simp)
    have hx3 := Ext.grown (S := [D]) hP (by simp)
    have hD2 := HD.out
    have hr1 : Boxed _ _ _ _ := hx3.keep (hx2.keep (HR1.out.set (.slice av 0 cv)) (by simp)) (by simp; omega)
    have hr2 : Boxed _ _ _ _ := hx3.keep (HO1.out.set (.bool true)) (by simp; omega)
    have hw2 : Ext [] w2 W := by have h := HB1.out; rw [← HZ2.out] at h; exact below_ext h
    have hE : Ext [] w W := (HE0.out.trans HX2.out).trans hw2
    have hzw := HZ.out
    refine ⟨_, results_cells2' rfl _ _ ⟨z + 1, 0, none⟩ ⟨z + 2, 0, none⟩ _ _ rfl rfl (load22' hr1) (load4 hr2), _, _, rfl, ?_⟩
    exact ((hE.on Hx1.out (by simp; omega)).on hx2 (by simp; omega)).on hx3 (by simp; omega)
end Go.Proofs.YtkknadkcpndnaaaDoor

/-
  What Delete and Grow answer of words that are no table; no statement is proved here.
-/
namespace Go.Proofs.YtkknadkcpndnaaaDoor
open Go.RowKit Go.Shelf
open Pr (Gp GpI)
attribute [local go_sem] Oper.semAt_some run_store_func wide_fn wide_depth

set_option maxRecDepth 100000 in
set_option maxHeartbeats 4000000 in
theorem tgrow_no (a : Option Addr) (n c : Nat) (T : List Nat) (M : Int) (hN : Ntb T n) (w : World) (hT : Wd w a T) :
    Calls Tryd.prog 18 #[.slice a n c, .int .i64 M] w (SayPost w (.tuple #[.slice none 0 0, .int .i64 1])) := by
  refine (callsIn_wide (n := 14)).1 ?_
  refine callsIn_of_wp_marks Tryd.func18 rfl trivial ?_ rfl
  simp only [Tryd.ntmps18, List.size_toArray, List.length_cons, List.length_nil, Nat.reduceAdd, Nat.reduceSub, Array.replicate_succ, Array.replicate_zero, List.push_toArray, List.append_toArray, List.nil_append, List.cons_append]
  obtain ⟨z, hz⟩ : ∃ z, w.heap.size = z := ⟨_, rfl⟩
  obtain ⟨W0, hW0⟩ : ∃ W0, (w.alloc (.cells #[.slice none 0 0] 22)).alloc (.cells #[.int .i64 0] 29) = W0 := ⟨_, rfl⟩
  have hE0 : Ext [] w W0 := by rw [← hW0]; exact (Ext.alloc [] _ _).trans (Ext.alloc [] _ _)
  have b0 : Boxed W0 z 22 (.slice none 0 0) := by rw [← hW0, ← hz]; exact (Boxed.new w 22 _).alloc _
  have b1 : Boxed W0 (z + 1) 29 (.int .i64 0) := by
    have := Boxed.new (w.alloc (.cells #[.slice none 0 0] 22)) 29 (.int .i64 0)
    rw [hW0, World.size_alloc, hz] at this; exact this
  have K0 := sound_no a n c T hN.len hN.le hN.lt hN.no _ (hT.keep0 hE0)
  have HE0 := hid hE0
  have Hba := hid b0
  have Hbb := hid b1
  have HZ := hid hz
  clear hE0 b0 b1 hT hN
  gi_wp2_with fail
  try rw [hW0]
  try simp only [hz]
  clear hW0
  gi_at_call 38
  refine (callsIn_wide.2 K0).mono ?_
  clear K0 hz
  rintro _ w1 ⟨rfl, hX1⟩
  have hb0 : Boxed w1 (z) 22 (.slice none 0 0) := hX1.keep Hba.out (by simp)
  have hb1 : Boxed w1 (z + 1) 29 (.int .i64 0) := hX1.keep Hbb.out (by simp)
  have HE3 := hid (HE0.out.trans hX1)
  clear hX1
  have c0 := hb0.cell
  have f0 := hb0.frozen
  have hx1 := Ext.setCell [z] w1 ⟨z, 0, none⟩ (.slice none 0 0) (by simp)
  have hb1' : Boxed (w1.setCell ⟨z, 0, none⟩ (.slice none 0 0)) (z + 1) 29 (.int .i64 0) := hx1.keep hb1 (by simp)
  have c1 := hb1'.cell
  have f1 := hb1'.frozen
  have Hx1 := hid hx1
  have Hb0' := hid hb0
  have Hb1' := hid hb1'
  clear hb0 hb1 hx1 hb1'
  gi_wp2_with fail
  have hx3 := Ext.setCell [z + 1] (w1.setCell ⟨z, 0, none⟩ (.slice none 0 0)) ⟨z + 1, 0, none⟩ (.int .i64 1) (by simp)
  have hr1 : Boxed _ _ _ _ := hx3.keep (Hb0'.out.set (.slice none 0 0)) (by simp)
  have hr2 : Boxed _ _ _ _ := Hb1'.out.set (.int .i64 1)
  have hw := HZ.out
  refine ⟨_, results_cells2 rfl _ _ ⟨z, 0, none⟩ ⟨z + 1, 0, none⟩ _ _ rfl rfl (load22 hr1) (load29 hr2), rfl, ?_⟩
  exact (HE3.out.on Hx1.out (by simp; omega)).on hx3 (by simp; omega)
set_option maxRecDepth 100000 in
set_option maxHeartbeats 4000000 in
theorem tdel_no (a : Option Addr) (n c : Nat) (T : List Nat) (h d : Nat) (hN : Ntb T n) (w : World) (hT : Wd w a T) :
    Calls Tryd.prog 17 #[.slice a n c, .int .u64 (h : Nat), .int .u64 (d : Nat)] w (SayPost w (.tuple #[.slice none 0 0, .int .i64 1])) := by
  refine (callsIn_wide (n := 14)).1 ?_
  refine callsIn_of_wp_marks Tryd.func17 rfl trivial ?_ rfl
  simp only [Tryd.ntmps17, List.size_toArray, List.length_cons, List.length_nil, Nat.reduceAdd, Nat.reduceSub, Array.replicate_succ, Array.replicate_zero, List.push_toArray, List.append_toArray, List.nil_append, List.cons_append]
  obtain ⟨z, hz⟩ : ∃ z, w.heap.size = z := ⟨_, rfl⟩
  obtain ⟨W0, hW0⟩ : ∃ W0, (((w.alloc (.cells #[.slice a n c] 22)).alloc (.cells #[.int .u64 (d : Nat)] 23)).alloc (.cells #[.slice none 0 0] 22)).alloc (.cells #[.int .i64 0] 29) = W0 := ⟨_, rfl⟩
  have hE0 : Ext [] w W0 := by rw [← hW0]; exact (((Ext.alloc [] _ _).trans (Ext.alloc [] _ _)).trans (Ext.alloc [] _ _)).trans (Ext.alloc [] _ _)
  have b0 : Boxed W0 z 22 (.slice a n c) := by rw [← hW0, ← hz]; exact (((Boxed.new w 22 _).alloc _).alloc _).alloc _
  have b2 : Boxed W0 (z + 2) 22 (.slice none 0 0) := by
    have := (Boxed.new ((w.alloc (.cells #[.slice a n c] 22)).alloc (.cells #[.int .u64 (d : Nat)] 23)) 22 (.slice none 0 0)).alloc (.cells #[.int .i64 0] 29)
    rw [hW0, World.size_alloc, World.size_alloc, hz] at this; exact this
  have b3 : Boxed W0 (z + 3) 29 (.int .i64 0) := by
    have := Boxed.new (((w.alloc (.cells #[.slice a n c] 22)).alloc (.cells #[.int .u64 (d : Nat)] 23)).alloc (.cells #[.slice none 0 0] 22)) 29 (.int .i64 0)
    rw [hW0, World.size_alloc, World.size_alloc, World.size_alloc, hz] at this; exact this
  have cZ := b0.cell
  have K0 := sound_no a n c T hN.len hN.le hN.lt hN.no _ (hT.keep0 hE0)
  have HE0 := hid hE0
  have Hba := hid b2
  have Hbb := hid b3
  have HZ := hid hz
  clear hE0 b0 b2 b3 hT hN
  gi_wp2_with fail
  try rw [hW0]
  try simp only [hz]
  try simp only [show z + 1 + 1 = z + 2 from rfl, show z + 1 + 1 + 1 = z + 3 from rfl]
  clear hW0
  gi_at_call 38
  refine (callsIn_wide.2 K0).mono ?_
  clear K0 hz
  rintro _ w1 ⟨rfl, hX1⟩
  have hb0 : Boxed w1 (z + 2) 22 (.slice none 0 0) := hX1.keep Hba.out (by simp)
  have hb1 : Boxed w1 (z + 3) 29 (.int .i64 0) := hX1.keep Hbb.out (by simp)
  have HE3 := hid (HE0.out.trans hX1)
  clear hX1
  have c0 := hb0.cell
  have f0 := hb0.frozen
  have hx1 := Ext.setCell [z + 2] w1 ⟨z + 2, 0, none⟩ (.slice none 0 0) (by simp)
  have hb1' : Boxed (w1.setCell ⟨z + 2, 0, none⟩ (.slice none 0 0)) (z + 3) 29 (.int .i64 0) := hx1.keep hb1 (by simp)
  have c1 := hb1'.cell
  have f1 := hb1'.frozen
  have Hx1 := hid hx1
  have Hb0' := hid hb0
  have Hb1' := hid hb1'
  clear hb0 hb1 hx1 hb1'
  gi_wp2_with fail
  have hx3 := Ext.setCell [z + 3] (w1.setCell ⟨z + 2, 0, none⟩ (.slice none 0 0)) ⟨z + 3, 0, none⟩ (.int .i64 1) (by simp)
  have hr1 : Boxed _ _ _ _ := hx3.keep (Hb0'.out.set (.slice none 0 0)) (by simp)
  have hr2 : Boxed _ _ _ _ := Hb1'.out.set (.int .i64 1)
  have hw := HZ.out
  refine ⟨_, results_cells2 rfl _ _ ⟨z + 2, 0, none⟩ ⟨z + 3, 0, none⟩ _ _ rfl rfl (load22 hr1) (load29 hr2), rfl, ?_⟩
  exact (HE3.out.on Hx1.out (by simp; omega)).on hx3 (by simp; omega)
end Go.Proofs.YtkknadkcpndnaaaDoor
