/-
  EqualKeeps, walked through; its frame is in LawKeeps.
-/
import Derived.Test.YtpjcbpgfbhlioaaDoorEqG
import Derived.Test.YtpjcbpgfbhlioaaDoorRowC
import Derived.Test.YtpjcbpgfbhlioaaDoorTSame
import Derived.Test.YtpjcbpgfbhlioaaDoorEq
import Derived.Deep.RegionHeld3
import Derived.Deep.Cut
namespace Go.Proofs.YtpjcbpgfbhlioaaDoor
open Go.RowKit

set_option maxRecDepth 100000 in
set_option maxHeartbeats 8000000 in
theorem keeps_walk (ts : List Ty) (ta : Option Addr) (tn tc : Nat) (htn : ts.length = tn) (d : Nat) (t : Int) (a : Option Addr) (l : List Cl) (c : Nat) (am : Option Addr) (m : List Cl) (mc : Nat) (seed : Int) (w : World) (hC : Cs (d + 1) w a l) (hM : Cs (d + 1) w am m) (hT : Tab w ta ts) (hG : Gl w) :
    Calls Tryd.prog 7 #[.agg #[.slice ta tn tc, .int .i64 t, .slice a l.length c], .slice am m.length mc, .int .u64 seed] w (SayPost w (.bool true)) := by
  have hE0 := Ext.alloc [] w (.cells #[.slice ta tn tc, .int .i64 t, .slice a l.length c] 25)
  have hb0 := heap_alloc_new w (.cells #[.slice ta tn tc, .int .i64 t, .slice a l.length c] 25)
  have KA := awake_any (w.alloc (.cells #[.slice ta tn tc, .int .i64 t, .slice a l.length c] 25))
  have HQ : Hid (∀ u, Ext [] (w.alloc (.cells #[.slice ta tn tc, .int .i64 t, .slice a l.length c] 25)) u → u.cell? ⟨w.heap.size, 0, none⟩ = some (.slice ta tn tc) ∧ u.cell? ⟨w.heap.size, 1, none⟩ = some (.int .i64 t) ∧ u.cell? ⟨w.heap.size, 2, none⟩ = some (.slice a l.length c)) := fun u hu =>
    ⟨hu.cell (by rw [cell_of_row _ _ _ _ _ _ hb0]; rfl) (by simp), hu.cell (by rw [cell_of_row _ _ _ _ _ _ hb0]; rfl) (by simp), hu.cell (by rw [cell_of_row _ _ _ _ _ _ hb0]; rfl) (by simp)⟩
  have HE0 := hid hE0
  have KT : ∀ u, Ext [] w u → Calls Tryd.prog 13 #[.slice ta tn tc] u (fun e w' => ∃ at1 ct1, e = .returned (.slice at1 tn ct1) ∧ tn ≤ ct1 ∧ Tab w' at1 ts ∧ Ext [] u w') := fun u hu => (copy_any ta ts tn tc u (hT.keep0 hu) htn).mono (by rintro e w' ⟨a1, c1, G, h1, h2, _, h4, h5⟩; exact ⟨a1, c1, h1, h2, h4, h5⟩)
  have hl := hC.len
  have HC := hid hC
  have HM := hid hM
  have HT := hid hT
  have HG := hid hG
  have HR : Hid (∀ i, i < l.length → Rg (cAt l i)) := fun i hi => hC.rg hi
  have HTN := hid htn
  clear hC hM hT hG hE0 hb0 htn
  go_enter Tryd.func7, Tryd.ntmps7
  go_upto_region 3 with (go_at_call 9; refine KA.mono ?_; clear KA; rintro e w1 ⟨rfl, hE1⟩)
  have HX1 : Hid (Ext [] w w1) := HE0.out.trans hE1
  obtain ⟨q0, q1, q2⟩ := HQ.out w1 hE1
  have KC := rcopy_row d a l _ c w1 (HC.out.keep0 HX1.out) rfl
  clear hE1 HQ HE0
  generalize w.heap.size = qb at *
  go_upto_region 4 with (first | (go_at_call 14; refine KC.mono ?_; clear KC; rintro e w2 ⟨lv, G, rfl, hO, hB, hE2⟩; obtain ⟨g, c4, w4, hr4, hCs4, h71, hc4, hE4⟩ := app71 w1 w2 lv _ d l G rfl hl hE2 HR.out hO hB; have HO := hid (And.intro hCs4 hE4); clear hO hB hE2 hCs4 hE4) | (at_builtin; refine wpList_append_run rfl _ _ 23 rfl _ _ _ rfl rfl hr4 ?_) | fail "no arm")
  clear hr4
  have p0 := HO.out.2.cell q0 (by simp)
  have p1 := HO.out.2.cell q1 (by simp)
  have p2 := HO.out.2.cell q2 (by simp)
  have HX4 : Hid (Ext [] w w4) := HX1.out.trans HO.out.2
  have KT4 := KT w4 HX4.out
  clear q0 q1 q2 KT
  have hlc : (l.length : Int) ≤ c4 := by omega
  have hll : (l.length : Int) < (l.length + 1 : Nat) := by omega
  go_upto_region 6 with (first | (go_at_call 13; refine KT4.mono ?_; clear KT4; rintro e w5 ⟨at1, ct1, rfl, hct, hTb, hE5⟩; have HTb := hid hTb; have HE5 := hid hE5; clear hTb hE5) | fail "no arm")
  have HX5 : Hid (Ext [] w w5) := HX4.out.trans HE5.out
  have r0 := HE5.out.cell p0 (by simp)
  have r1 := HE5.out.cell p1 (by simp)
  have r2 := HE5.out.cell p2 (by simp)
  have r3 := HE5.out.cell h71 (by simp)
  have HCi : Hid (Cs (d + 1) w5 (some ⟨g, 0, none⟩) l) := HO.out.1.keep0 HE5.out
  clear p0 p1 p2 h71
  have KE : Hid (∀ u, Ext [] w5 u → Calls Tryd.prog 12 #[.slice at1 tn ct1, .int .i64 t, .slice (some ⟨g, 0, none⟩) l.length c4, .slice am m.length mc] u (SayPost u (paV (eqR ts (d + 1) t l m)))) := fun u hu => equal_any ts at1 tn ct1 HTN.out hct (d + 1) t _ l c4 am m mc u (HCi.out.keep0 hu) (HM.out.keep0 (HX5.out.trans hu)) (HTb.out.keep0 hu) (HG.out.keep0 (HX5.out.trans hu))
  have KH : Hid (∀ u, Ext [] w5 u → Calls Tryd.prog 16 #[.slice at1 tn ct1, .int .i64 t, .slice (some ⟨g, 0, none⟩) l.length c4, .int .u64 seed, .int .u64 1] u (SayPost u (huV (hsR ts (d + 1) t l seed 1)))) := fun u hu => hash_any ts at1 tn ct1 HTN.out hct (d + 1) t _ l c4 seed 1 u (HCi.out.keep0 hu) (HTb.out.keep0 hu) (HG.out.keep0 (HX5.out.trans hu))
  have KS : Hid (∀ u, Ext [] w5 u → Calls Tryd.prog 22 #[.slice (some ⟨g, 0, none⟩) l.length c4, .slice a l.length c] u (SayPost u (.bool true))) := fun u hu => rsame_true (d + 1) _ _ l _ c4 c (d + 1) u (HCi.out.keep0 hu) (HC.out.keep0 (HX5.out.trans hu)) rfl
  have KU : Hid (∀ u, Ext [] w5 u → Calls Tryd.prog 23 #[.slice at1 tn ct1, .slice ta tn tc] u (SayPost u (.bool true))) := fun u hu => tsame_true at1 ta tn ct1 tc ts u (HTb.out.keep0 hu) (HT.out.keep0 (HX5.out.trans hu)) HTN.out
  unfold paV at KE
  unfold huV at KH
  clear HO HX1 HX4 HE5 HTb HCi HC HM HT HG HTN HR
  generalize (eqR ts (d + 1) t l m).1 = e1 at *
  generalize (eqR ts (d + 1) t l m).2 = e2 at *
  generalize (hsR ts (d + 1) t l seed 1).1 = h1 at *
  generalize (hsR ts (d + 1) t l seed 1).2 = h2 at *
  have b1 : (e1 == e1) = true := by simp
  have b2 : (e2 == e2) = true := by simp
  have b3 : (h1 == h1) = true := by simp
  have HB : Hid (∀ u, Ext [] w5 u → u.cell? ⟨qb, 0, none⟩ = some (.slice ta tn tc) ∧ u.cell? ⟨qb, 1, none⟩ = some (.int .i64 t) ∧ u.cell? ⟨qb, 2, none⟩ = some (.slice a l.length c) ∧ u.cell? ⟨g, l.length * 4, none⟩ = some (.int .u64 71)) := fun u hu => ⟨hu.cell r0 (by simp), hu.cell r1 (by simp), hu.cell r2 (by simp), hu.cell r3 (by simp)⟩
  have K1 := KE.out w5 (Ext.refl _ _)
  generalize l.length = n at *
  generalize m.length = mn at *
  go_upto_region 7 with (first | (go_at_call 12; refine K1.mono ?_; clear K1; rintro e w6 ⟨rfl, hE6⟩) | fail "no arm")
  have HE6 := hid hE6
  obtain ⟨s0, s1, s2, s3⟩ := HB.out w6 HE6.out
  have K2 := KH.out w6 HE6.out
  clear hE6 r0 r1 r2 r3
  go_upto_region 8 with (first | (go_at_call 16; refine K2.mono ?_; clear K2; rintro e w7 ⟨rfl, hE7⟩) | fail "no arm")
  have HE7 := hid (HE6.out.trans hE7)
  obtain ⟨r0, r1, r2, r3⟩ := HB.out w7 HE7.out
  have K3 := KE.out w7 HE7.out
  clear hE7 s0 s1 s2 s3 HE6
  go_upto_region 9 with (first | (go_at_call 12; refine K3.mono ?_; clear K3; rintro e w8 ⟨rfl, hE8⟩) | fail "no arm")
  have HE8 := hid (HE7.out.trans hE8)
  obtain ⟨s0, s1, s2, s3⟩ := HB.out w8 HE8.out
  have K4 := KH.out w8 HE8.out
  clear hE8 r0 r1 r2 r3 HE7
  go_upto_region 10 with (first | (go_at_call 16; refine K4.mono ?_; clear K4; rintro e w9 ⟨rfl, hE9⟩) | fail "no arm")
  have HE9 := hid (HE8.out.trans hE9)
  obtain ⟨r0, r1, r2, r3⟩ := HB.out w9 HE9.out
  have K5 := KS.out w9 HE9.out
  clear hE9 s0 s1 s2 s3 HE8
  go_wp2_with (first | (go_at_call 22; refine K5.mono ?_; clear K5; rintro e w10 ⟨rfl, hE10⟩; have HE10 := hid (HE9.out.trans hE10); have h10 := HB.out w10 HE10.out; have s0 := h10.1; have s2 := h10.2.2.1; have s3 := h10.2.2.2; have K6 := KU.out w10 HE10.out; clear hE10 h10) | (go_at_call 23; refine K6.mono ?_; clear K6; rintro e w11 ⟨rfl, hE11⟩; have HE11 := hid (HE10.out.trans hE11); clear hE11) | fail "no arm")
  go_ret
  exact ⟨rfl, HX5.out.trans HE11.out⟩

end Go.Proofs.YtpjcbpgfbhlioaaDoor
