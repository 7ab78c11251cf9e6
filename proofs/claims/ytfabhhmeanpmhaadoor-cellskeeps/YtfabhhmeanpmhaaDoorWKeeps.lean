/-
  CellsKeeps, walked through; its frame is in LawKeeps.
-/
import Derived.Test.YtfabhhmeanpmhaaDoorTxF
import Derived.Test.YtfabhhmeanpmhaaDoorTwn
import Derived.Test.YtfabhhmeanpmhaaDoorRowC
import Derived.Test.YtfabhhmeanpmhaaDoorSpoil
namespace Go.Proofs.YtfabhhmeanpmhaaDoor
open Go.RowKit

set_option maxRecDepth 100000 in
set_option maxHeartbeats 8000000 in
theorem keepsWalk (ts : List Ty) (ta : Option Addr) (tn tc : Nat) (htn : ts.length = tn) (htc : tn ≤ tc) (d : Nat) (t i : Int) (a : Option Addr) (l : List Cl) (c : Nat) (w : World) (hC : Cs (d + 1) w a l) (hT : TabC w ta ts) (hG : Gl w) (hP : Tp w) :
    Calls Tryd.prog 7 #[.agg #[.slice ta tn tc, .int .i64 t, .slice a l.length c], .int .i64 i] w (SayPost w (.bool true)) := by
  have hE0 := Ext.alloc [] w (.cells #[.slice ta tn tc, .int .i64 t, .slice a l.length c] 25)
  have hb0 := heap_alloc_new w (.cells #[.slice ta tn tc, .int .i64 t, .slice a l.length c] 25)
  have KA := awake_any (w.alloc (.cells #[.slice ta tn tc, .int .i64 t, .slice a l.length c] 25)) (hG.keep0 hE0)
  have HQ : Hid (∀ u, Ext [] (w.alloc (.cells #[.slice ta tn tc, .int .i64 t, .slice a l.length c] 25)) u → u.cell? ⟨w.heap.size, 0, none⟩ = some (.slice ta tn tc) ∧ u.cell? ⟨w.heap.size, 1, none⟩ = some (.int .i64 t) ∧ u.cell? ⟨w.heap.size, 2, none⟩ = some (.slice a l.length c)) := fun u hu =>
    ⟨hu.cell (by rw [cell_of_row _ _ _ _ _ _ hb0]; rfl) (by simp), hu.cell (by rw [cell_of_row _ _ _ _ _ _ hb0]; rfl) (by simp), hu.cell (by rw [cell_of_row _ _ _ _ _ _ hb0]; rfl) (by simp)⟩
  have HE0 := hid hE0
  have hl := hC.len
  have HC := hid hC
  have HT := hid hT
  have HG := hid hG
  have HP := hid hP
  have HR : Hid (∀ i, i < l.length → Rg (cAt l i)) := fun i hi => hC.rg hi
  have HTN := hid htn
  have HTC := hid htc
  clear hC hT hG hP hE0 hb0 htn htc
  go_enter Tryd.func7, Tryd.ntmps7
  go_upto_region 3 with (go_at_call 8; refine KA.mono ?_; clear KA; rintro e w1 ⟨rfl, hE1⟩)
  have HX1 : Hid (Ext [] w w1) := HE0.out.trans hE1
  obtain ⟨q0, q1, q2⟩ := HQ.out w1 hE1
  have KC := rcopy_row d a l _ c w1 (HC.out.keep0 HX1.out) rfl
  clear hE1 HQ HE0
  generalize w.heap.size = qb at *
  go_upto_region 4 with (first | (go_at_call 11; refine KC.mono ?_; clear KC; rintro e w2 ⟨lv, G, rfl, hO, hB, hE2⟩; obtain ⟨g, c4, w4, hr4, hCs4, h71, h72, hc4, hE4⟩ := app71 w1 w2 lv _ d l G rfl hl hE2 HR.out hO hB; have HO := hid (And.intro hCs4 hE4); clear hO hB hE2 hCs4 hE4) | (at_builtin; refine wpList_append_run rfl _ _ 23 rfl _ _ _ rfl rfl hr4 ?_) | fail "no arm")
  clear hr4
  have p0 := HO.out.2.cell q0 (by simp)
  have p1 := HO.out.2.cell q1 (by simp)
  have p2 := HO.out.2.cell q2 (by simp)
  have HX4 : Hid (Ext [] w w4) := HX1.out.trans HO.out.2
  have HCi := hid HO.out.1
  have hw : IntKind.i64.wrap ((l.length : Int) + 1) = (l.length : Int) + 1 := by rw [IntKind.wrap_i64]; omega
  have hw2 : ((l.length : Int) + 1).toNat = l.length + 1 := by omega
  clear q0 q1 q2 HX1 HO HR hl
  have hlc : (l.length : Int) ≤ c4 := by omega
  have hlc' : l.length ≤ c4 := by omega
  have hll : (l.length : Int) < (l.length + 2 : Nat) := by omega
  have hl2 : (l.length : Int) + 1 < (l.length + 2 : Nat) := by omega
  have KP : Hid (∀ u, Ext [] w4 u → Calls Tryd.prog 21 #[.slice ta tn tc, .int .i64 t, .slice (some ⟨g, 0, none⟩) l.length c4, .int .i64 i] u (QPostX u (d + 1) (partV ts (d + 1) t l i) (fchk ts (d + 1) t l i))) := fun u hu => part_anyX ts ta tn tc HTN.out HTC.out (d + 1) t i _ l _ c4 u (HCi.out.keep0 hu) rfl hlc' (HT.out.keep0 (HX4.out.trans hu)) (HG.out.keep0 (HX4.out.trans hu))
  have KU : Hid (∀ u am, Ext [] w4 u → Cs (d + 1) u am (partV ts (d + 1) t l i) → Calls Tryd.prog 23 #[.slice ta tn tc, .int .i64 t, .slice (some ⟨g, 0, none⟩) l.length c4, .int .i64 i, .slice am (partV ts (d + 1) t l i).length (partV ts (d + 1) t l i).length] u (QPostX u (d + 1) (putV ts (d + 1) t l i (partV ts (d + 1) t l i)) (putE ts (d + 1) t l i (partV ts (d + 1) t l i)))) := fun u am hu hM => put_anyX ts ta tn tc HTN.out HTC.out (d + 1) t i _ l _ c4 am _ _ _ u (HCi.out.keep0 hu) rfl hlc' hM rfl (HT.out.keep0 (HX4.out.trans hu)) (HG.out.keep0 (HX4.out.trans hu))
  have KX : Hid (∀ u, Ext [] w4 u → Calls Tryd.prog 13 #[.slice ta tn tc, .int .i64 t, .slice (some ⟨g, 0, none⟩) l.length c4] u (TxPost' u (txtV ts (d + 1) t l) (vchk ts (d + 1) t l))) := fun u hu => text_any ts ta tn tc HTN.out HTC.out (d + 1) t _ l _ c4 u (HCi.out.keep0 hu) rfl hlc' (HT.out.tab.keep0 (HX4.out.trans hu)) (HG.out.keep0 (HX4.out.trans hu)) (Lib.tabBelow_of_tabIs (HP.out.keep0 (HX4.out.trans hu)))
  have KZ : Hid (∀ u, Ext [] w4 u → Calls Tryd.prog 18 #[.slice (some ⟨g, 0, none⟩) l.length c4] u (SayPost u (.int .i64 (siz l)))) := fun u hu => psize_any (d + 1) _ l _ c4 u (HCi.out.keep0 hu) rfl
  have KW : Hid (∀ u, Calls Tryd.prog 20 #[.slice (some ⟨g, 0, none⟩) l.length c4, .slice (some ⟨g, 0, none⟩) l.length c4] u (fun e w' => e = .returned (.bool true) ∧ Ext [] u w')) := fun u => same_twin u _ _ c4 (.inr ⟨g, 0, rfl⟩)
  have KV : Hid (∀ u, Ext [] w4 u → Calls Tryd.prog 17 #[.slice (some ⟨g, 0, none⟩) l.length c4, .slice a l.length c] u (SayPost u (.bool true))) := fun u hu => rsame_true (d + 1) _ _ l _ c4 c (d + 1) u (HCi.out.keep0 hu) (HC.out.keep0 (HX4.out.trans hu)) rfl
  have HBk : Hid (fchk ts (d + 1) t l i = 0 → putE ts (d + 1) t l i (partV ts (d + 1) t l i) = 0) := fun h => (backs [] h).1.1
  have HB : Hid (∀ u, Ext [] w4 u → u.cell? ⟨qb, 0, none⟩ = some (.slice ta tn tc) ∧ u.cell? ⟨qb, 1, none⟩ = some (.int .i64 t) ∧ u.cell? ⟨qb, 2, none⟩ = some (.slice a l.length c) ∧ u.cell? ⟨g, l.length * 4, none⟩ = some (.int .u64 71) ∧ u.cell? ⟨g, (l.length + 1) * 4, none⟩ = some (.int .u64 72)) := fun u hu => ⟨hu.cell p0 (by simp), hu.cell p1 (by simp), hu.cell p2 (by simp), hu.cell h71 (by simp), hu.cell h72 (by simp)⟩
  clear HCi HC HT HG HP HTN HTC h71 h72
  generalize putV ts (d + 1) t l i (partV ts (d + 1) t l i) = PU at *
  generalize putE ts (d + 1) t l i (partV ts (d + 1) t l i) = pe at *
  generalize partV ts (d + 1) t l i = PV at *
  generalize fchk ts (d + 1) t l i = er at *
  generalize txtV ts (d + 1) t l = tx at *
  generalize vchk ts (d + 1) t l = vc at *
  generalize siz l = sl at *
  generalize l.length = n at *
  have K1 := KP.out w4 (Ext.refl _ _)
  unfold QPostX at K1
  go_upto_region 6 with (first | (go_at_call 21; refine K1.mono ?_; clear K1; rintro e w5 ⟨a1, c1, rfl, rfl, hX5, hE5⟩) | fail "no arm")
  have HX5 := hid (hX5.imp (Q := fun b => w4.heap.size ≤ b ∧ b < w5.heap.size) (fun b h1 h2 => ⟨h2, h1⟩))
  have HE5 := hid hE5
  obtain ⟨r0, r1, r2, _⟩ := HB.out w5 HE5.out
  have K2 := KU.out w5 a1 HE5.out hX5.co.cs
  unfold QPostX at K2
  clear hX5 hE5 p0 p1 p2 KU
  go_upto_region 7 with (first | (go_at_call 23; refine K2.mono ?_; clear K2; rintro e w6 ⟨a2, c2, rfl, rfl, hX6, hE6⟩) | fail "no arm")
  have HX6 := hid (hX6.imp (Q := fun b => w5.heap.size ≤ b ∧ b < w6.heap.size) (fun b h1 h2 => ⟨h2, h1⟩))
  have HE56 := hid hE6
  have HE6 := hid (HE5.out.trans hE6)
  obtain ⟨s0, s1, s2, _⟩ := HB.out w6 HE6.out
  have K3 := KX.out w6 HE6.out
  unfold TxPost' at K3
  clear hX6 hE6 r0 r1 r2 KX
  go_upto_region 8 with (first | (go_at_call 13; refine K3.mono ?_; clear K3; rintro e w7 ⟨rfl, hE7⟩) | fail "no arm")
  have HE67 := hid hE7
  have K4 := KZ.out w7 (HE6.out.trans hE7)
  clear hE7 s0 s1 s2 KZ
  go_upto_region 9 with (first | (go_at_call 18; refine K4.mono ?_; clear K4; rintro e w8 ⟨rfl, hE8⟩) | fail "no arm")
  have HE68 := hid (HE67.out.trans hE8)
  have K5 := KW.out w8
  clear hE8 KW HE67
  go_upto_region 10 with (first | (go_at_call 20; refine K5.mono ?_; clear K5; rintro e w9 ⟨rfl, hE9⟩) | fail "no arm")
  have HE69 := hid (HE68.out.trans hE9)
  have HE9 := hid (HE6.out.trans HE69.out)
  obtain ⟨r0, r1, r2, _⟩ := HB.out w9 HE9.out
  have K6 := KP.out w9 HE9.out
  unfold QPostX at K6
  clear hE9 HE68
  go_upto_region 11 with (first | (go_at_call 21; refine K6.mono ?_; clear K6; rintro e w10 ⟨a3, c3, rfl, rfl, hX10, hE10⟩) | fail "no arm")
  have HX10 := hid hX10
  have HE910 := hid hE10
  have HE10 := hid (HE9.out.trans hE10)
  obtain ⟨s0, s1, s2, s3, s4⟩ := HB.out w10 HE10.out
  have K7 : Calls Tryd.prog 17 #[.slice a1 PV.length PV.length, .slice a3 PV.length PV.length] w10 (SayPost w10 (.bool true)) := rsame_true (d + 1) _ _ PV _ _ _ (d + 1) w10 (HX5.out.co.cs.keep0 ((HE56.out.trans HE69.out).trans hE10)) hX10.co.cs rfl
  clear hX10 hE10 r0 r1 r2
  have b1 : (er != er) = false := by simp
  go_upto_region 13 with (first | (go_at_call 17; refine K7.mono ?_; clear K7; rintro e w11 ⟨rfl, hE11⟩; have HE1011 := hid hE11; have HE11 := hid (HE10.out.trans hE11); have h11 := HB.out w11 HE11.out; have t2 := h11.2.2.1; have K8 := KV.out w11 HE11.out; clear h11 hE11) | (go_at_call 17; refine K8.mono ?_; clear K8; rintro e w12 ⟨rfl, hE12⟩; have HE1012 := hid (HE1011.out.trans hE12); have HE12 := hid (HE11.out.trans hE12); have h12 := HB.out w12 HE12.out; have u2 := h12.2.2.1; have u3 := h12.2.2.2.1; have u4 := h12.2.2.2.2; clear h12 hE12) | fail "no arm")
  have K9 := spoil_any (fun b => w4.heap.size ≤ b ∧ b < w5.heap.size) (d + 1) a1 PV.length w12 (HX5.out.keep0 (((HE56.out.trans HE69.out).trans HE910.out).trans HE1012.out)).sx
  clear s0 s1 s2 s3 s4 t2 u2 u3 u4
  go_upto_region 14 with (first | (go_at_call 26; refine K9.mono ?_; clear K9; rintro e w13 ⟨rfl, hS13⟩) | fail "no arm")
  have HE13 : Hid (Ext [] w4 w13) := Spo.ext HE12.out hS13 (fun b hb => hb.1)
  have HX6b : Hid (Cx (fun b => w5.heap.size ≤ b ∧ b < w6.heap.size) (d + 1) w13 a2 PU) := ((HX6.out.keep0 ((HE69.out.trans HE910.out).trans HE1012.out))).move (fun b h1 h2 => hS13.out b h1 (fun h3 => by omega))
  have hz1 := HE56.out.size
  have hz2 := HE69.out.size
  have HX10b : Hid (Cx (fun b => w9.heap.size ≤ b) (d + 1) w13 a3 PV) := (HX10.out.keep0 HE1012.out).move (fun b h1 h2 => hS13.out b h1 (fun h3 => by omega))
  have K10 := spoil_any (fun b => w5.heap.size ≤ b ∧ b < w6.heap.size) (d + 1) a2 PU.length w13 HX6b.out.sx
  clear hS13 HX6 HX10 HX5
  go_upto_region 15 with (first | (go_at_call 26; refine K10.mono ?_; clear K10; rintro e w14 ⟨rfl, hS14⟩) | fail "no arm")
  have hz3 := HE5.out.size
  have HE14 : Hid (Ext [] w4 w14) := Spo.ext HE13.out hS14 (fun b hb => by omega)
  have HX10c : Hid (Cx (fun b => w9.heap.size ≤ b) (d + 1) w14 a3 PV) := HX10b.out.move (fun b h1 h2 => hS14.out b h1 (fun h3 => by omega))
  obtain ⟨r0, r1, r2, _⟩ := HB.out w14 HE14.out
  have K11 := KP.out w14 HE14.out
  unfold QPostX at K11
  clear hS14 HX10b HX6b hz1 hz2 hz3
  go_upto_region 16 with (first | (go_at_call 21; refine K11.mono ?_; clear K11; rintro e w15 ⟨a5, c5, rfl, rfl, hX15, hE15⟩) | fail "no arm")
  have HE15 := hid (HE14.out.trans hE15)
  obtain ⟨s0, s1, s2, _⟩ := HB.out w15 HE15.out
  have K12 := KV.out w15 HE15.out
  have K13 : Hid (∀ u, Ext [] w15 u → Calls Tryd.prog 17 #[.slice a3 PV.length PV.length, .slice a5 PV.length PV.length] u (SayPost u (.bool true))) := fun u hu => rsame_true (d + 1) _ _ PV _ _ _ (d + 1) u (HX10c.out.co.cs.keep0 (hE15.trans hu)) (hX15.co.cs.keep0 hu) rfl
  have K13 := hid K13.out
  clear hX15 hE15 r0 r1 r2
  by_cases her : er = 0
  · have hpe := HBk.out her
    subst her
    subst hpe
    go_wp2_with (first | (go_at_call 17; refine K12.mono ?_; clear K12; rintro e w16 ⟨rfl, hE16⟩; have HE16 := hid hE16; have K14 := K13.out w16 hE16; clear hE16) | (go_at_call 17; refine K14.mono ?_; clear K14; rintro e w17 ⟨rfl, hE17⟩; have HE17 := hid (HE16.out.trans hE17); clear hE17) | fail "no arm")
    go_ret
    exact ⟨rfl, (HX4.out.trans HE15.out).trans HE17.out⟩
  · have h1 : (er != 0) = true := by simpa using her
    go_wp2_with (first | (go_at_call 17; refine K12.mono ?_; clear K12; rintro e w16 ⟨rfl, hE16⟩; have HE16 := hid hE16; have K14 := K13.out w16 hE16; clear hE16) | (go_at_call 17; refine K14.mono ?_; clear K14; rintro e w17 ⟨rfl, hE17⟩; have HE17 := hid (HE16.out.trans hE17); clear hE17) | fail "no arm")
    go_ret
    exact ⟨rfl, (HX4.out.trans HE15.out).trans HE17.out⟩
end Go.Proofs.YtfabhhmeanpmhaaDoor
