/-
  Steps of ColorPlays that compare lists; no statement is proved here.
-/
import Derived.Test.YtbjplfbplkjibaaStepB
namespace Go.Proofs.Ytbjplfbplkjibaa
open Go.RowKit

theorem ints_li (l : List Nat) : ints l = (li l).map (Value.int .i64) := by simp [ints, li]

set_option maxRecDepth 100000 in
set_option maxHeartbeats 4000000 in
theorem step_color (w0 : World) (p q : Nat) (G : Gs) (o : Oq) (ra : Option Addr) (rn rc : Nat) (w : World) (h : PlE w0 w p q G) (hI : Iv G) (hk : o.kd = 5) :
    Calls Try.prog 6 #[.pointer (some ⟨p, 0, none⟩), .pointer (some ⟨q, 0, none⟩), oqv o ra rn rc] w (SpPost w0 p q (opG G o)) := by
  obtain ⟨C, D, hP⟩ := h
  rw [(oq_eq G o).2.2.2.2.1 (.inr hk)]
  have b1 : (o.kd == 1) = false := by simp [hk]
  have b2 : (o.kd == 2) = false := by simp [hk]
  have b3 : (o.kd == 3) = false := by simp [hk]
  have b4 : (o.kd == 4) = false := by simp [hk]
  have b5 : (o.kd == 5) = true := by simp [hk]
  have hEa : Ext [] w (w.alloc (.cells #[.int .i64 o.kd, .int .i64 o.a, .int .i64 o.b, .int .i64 o.c, .slice ra rn rc] 33)) := Ext.alloc [] w _
  have hP1 := hP.keep0 hEa
  have K := color_any p G C o.a _ hP1.a hI.len
  have KB := rcolor_any q G D o.a _ hP1.b hI
  have HP1 : Hid (PlE w0 (w.alloc (.cells #[.int .i64 o.kd, .int .i64 o.a, .int .i64 o.b, .int .i64 o.c, .slice ra rn rc] 33)) p q G) := ⟨_, _, hP1⟩
  have d1 : (w.alloc (.cells #[.int .i64 o.kd, .int .i64 o.a, .int .i64 o.b, .int .i64 o.c, .slice ra rn rc] 33)).cell? ⟨w.heap.size, 1, none⟩ = some (.int .i64 o.a) := by rw [cell_of_row _ _ _ _ _ _ (heap_alloc_new w _)]; rfl
  unfold oqv
  clear hP hP1 hI hEa hk
  generalize (if lvB G o.a = true then ((ndAt G.ns o.a.toNat).c : Int) else 0) = cc at *
  generalize fl G o.a = er at *
  have hbe : (cc == cc) = true := by simp
  have hbf : (er == er) = true := by simp
  go_enter Try.func6, Try.ntmps6
  go_wp2_with (first | (go_at_call 13; refine met K ?_) | (go_at_call 23; refine met KB ?_))
  go_ret
  exact ⟨rfl, HP1.out⟩

set_option maxRecDepth 100000 in
set_option maxHeartbeats 4000000 in
theorem step_slots (w0 : World) (p q : Nat) (G : Gs) (o : Oq) (ra : Option Addr) (rn rc : Nat) (w : World) (h : PlE w0 w p q G) (hI : Iv G) (hk : o.kd = 4) :
    Calls Try.prog 6 #[.pointer (some ⟨p, 0, none⟩), .pointer (some ⟨q, 0, none⟩), oqv o ra rn rc] w (SpPost w0 p q (opG G o)) := by
  obtain ⟨C, D, hP⟩ := h
  rw [(oq_eq G o).2.2.2.2.1 (.inl hk)]
  have b1 : (o.kd == 1) = false := by simp [hk]
  have b2 : (o.kd == 2) = false := by simp [hk]
  have b3 : (o.kd == 3) = false := by simp [hk]
  have b4 : (o.kd == 4) = true := by simp [hk]
  have hEa : Ext [] w (w.alloc (.cells #[.int .i64 o.kd, .int .i64 o.a, .int .i64 o.b, .int .i64 o.c, .slice ra rn rc] 33)) := Ext.alloc [] w _
  have hP1 := hP.keep0 hEa
  have K := slots_any p G C o.a _ hP1.a hI
  have HP1 := hid hP1
  have HI := hid hI
  have d1 : (w.alloc (.cells #[.int .i64 o.kd, .int .i64 o.a, .int .i64 o.b, .int .i64 o.c, .slice ra rn rc] 33)).cell? ⟨w.heap.size, 1, none⟩ = some (.int .i64 o.a) := by rw [cell_of_row _ _ _ _ _ _ (heap_alloc_new w _)]; rfl
  have hsl : (slV G o.a).length ≤ 8192 := by
    unfold slV
    split
    · exact hI.sl _
    · simp
  unfold oqv
  clear hP hP1 hI hEa hk
  go_enter Try.func6, Try.ntmps6
  go_wp2_with fail
  refine K.mono ?_
  clear K
  rintro e w1 ⟨v1, rfl, ho1, hE1⟩
  have hP2 := HP1.out.keep0 hE1
  have d2 := hE1.cell d1 (by simp)
  have KB := rslots_any q G D o.a w1 hP2.b HI.out
  obtain ⟨a1, c1, rfl, _⟩ := own_slice ho1
  have HO1 := hid ho1
  have HP2 := hid hP2
  clear ho1 hE1 hP2 HP1
  go_wp2_with fail
  refine KB.mono ?_
  clear KB
  rintro e w2 ⟨a2, c2, rfl, hI2, rfl⟩
  have KS := sameInts_true a1 a2 (slV G o.a).length c1 c2 (slV G o.a) w2 (own_vs HO1.out) hI2 rfl (by omega)
  clear hI2 HO1
  generalize fl G o.a = er at *
  generalize (slV G o.a).length = sl at *
  have hbf : (er == er) = true := by simp
  go_wp2_with fail
  refine KS.mono ?_
  clear KS
  rintro e w3 ⟨rfl, hE3⟩
  have HP3 : Hid (PlE w0 w3 p q G) := ⟨_, _, HP2.out.keep0 hE3⟩
  clear hE3
  go_wp2_with fail
  go_ret
  exact ⟨rfl, HP3.out⟩

set_option maxRecDepth 100000 in
set_option maxHeartbeats 4000000 in
theorem step_work (w0 : World) (p q : Nat) (G : Gs) (o : Oq) (ra : Option Addr) (rn rc : Nat) (w : World) (h : PlE w0 w p q G) (hI : Iv G) (hcy : G.cy < 900000000000000000) (hk : o.kd = 3) :
    Calls Try.prog 6 #[.pointer (some ⟨p, 0, none⟩), .pointer (some ⟨q, 0, none⟩), oqv o ra rn rc] w (SpPost w0 p q (opG G o)) := by
  obtain ⟨C, D, hP⟩ := h
  rw [(oq_eq G o).2.2.1 hk]
  have b1 : (o.kd == 1) = false := by simp [hk]
  have b2 : (o.kd == 2) = false := by simp [hk]
  have b3 : (o.kd == 3) = true := by simp [hk]
  have hEa : Ext [] w (w.alloc (.cells #[.int .i64 o.kd, .int .i64 o.a, .int .i64 o.b, .int .i64 o.c, .slice ra rn rc] 33)) := Ext.alloc [] w _
  have hP1 := hP.keep0 hEa
  have KU := fun W => units_any o.a W
  have K := work_any p G C (min o.a 100000) _ hP1.a hI (by omega) hcy
  have HP1 := hid hP1
  have HI := hid hI
  have hob : ∀ k, C k → k < w.heap.size := fun k hk => (hP.la k hk).2
  have HOb := hid hob
  have d1 : (w.alloc (.cells #[.int .i64 o.kd, .int .i64 o.a, .int .i64 o.b, .int .i64 o.c, .slice ra rn rc] 33)).cell? ⟨w.heap.size, 1, none⟩ = some (.int .i64 o.a) := by rw [cell_of_row _ _ _ _ _ _ (heap_alloc_new w _)]; rfl
  unfold oqv
  clear hP hP1 hI hEa hk hob
  have huu : min o.a 100000 ≤ 100000 := by omega
  generalize min o.a 100000 = uu at *
  go_enter Try.func6, Try.ntmps6
  go_wp2_with (go_at_call 19; refine met (KU _) ?_)
  refine K.mono ?_
  clear K
  rintro e w1 ⟨v1, C1, rfl, ho1, hg1, hC1, hv1, hx1⟩
  have hP2 := HP1.out.opA hg1 hC1 hx1
  have d2 := hx1.cell d1 (fun r => by have := HOb.out _ r; simp at this)
  have KB := rwork_any q G D uu w1 hP2.b HI.out (by omega) hcy
  obtain ⟨a1, c1, rfl, _⟩ := own_slice ho1
  have HO1 := hid ho1
  have HP2 := hid hP2
  have HV1 : Hid (∀ g, (Value.slice a1 (work uu.toNat G).2.1.length c1).ownBlock = some g → ¬ D g) := fun g hg r => by
    have h1 := (own_lt ho1 g hg).1
    have h2 := (HP1.out.lb g r).2
    omega
  clear ho1 hg1 hC1 hv1 hx1 hP2
  go_wp2_with (go_at_call 19; refine met (KU _) ?_)
  refine KB.mono ?_
  clear KB
  rintro e w2 ⟨v2, D2, rfl, ho2, hl2, hg2, hD2, hv2, hx2⟩
  have hP3 := HP2.out.opB hg2 hD2 hx2
  have hO2 := own_keepF HO1.out hx2 HV1.out
  obtain ⟨a2, c2, rfl, _⟩ := own_slice ho2
  rw [ints_li] at hO2 ho2
  have KS := sameInts_true a1 a2 (work uu.toNat G).2.1.length c1 c2 (li (work uu.toNat G).2.1) w2 (own_vs hO2) (own_vs ho2) (li_len _) (by omega)
  have HP3 := hid hP3
  clear hO2 ho2 hg2 hD2 hv2 hx2 hP3 HO1 HP2 HV1 hl2
  generalize hw2 : (work uu.toNat G).2.2 = G2 at *
  generalize (work uu.toNat G).2.1.length = wl at *
  generalize ((work uu.toNat G).1 : Int) = wn1 at *
  have hbe : (wn1 == wn1) = true := by simp
  go_wp2_with fail
  refine KS.mono ?_
  clear KS
  rintro e w3 ⟨rfl, hE3⟩
  have HP4 : Hid (PlE w0 w3 p q G2) := ⟨_, _, HP3.out.keep0 hE3⟩
  clear hE3
  go_wp2_with fail
  go_ret
  exact ⟨rfl, HP4.out⟩

end Go.Proofs.Ytbjplfbplkjibaa
