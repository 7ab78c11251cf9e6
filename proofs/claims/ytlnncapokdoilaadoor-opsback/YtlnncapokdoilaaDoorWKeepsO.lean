/-
  OpsKeeps, walked through; its frame is in LawKeeps.
-/
import Derived.Test.YtlnncapokdoilaaDoorKeepM
namespace Go.Proofs.YtlnncapokdoilaaDoor
open Go.RowKit

theorem box_err (ts : List Ty) (ta : Option Addr) (tn tc : Nat) (htn : ts.length = tn) (hc : tn ≤ tc) (d : Nat) (t : Int) (a : Option Addr) (l : List Cl) (c : Nat) (w : World) (hC : Cs d w a l) (hT : Tab w ta ts) (hG : Gl w) (h : boxE ts d t l ≠ 0) :
    Calls Tryd.prog 7 #[.slice ta tn tc, .int .i64 t, .slice a l.length c] w (SayPost w (.tuple #[.agg #[.int .u64 0, .string ⟨#[]⟩, .int .i64 0, .slice none 0 0], .int .i64 (boxE ts d t l)])) :=
  (box_any ts ta tn tc htn hc d t a l c w hC hT hG).mono (by
    rintro e w' ⟨hE, ⟨_, rfl⟩ | ⟨hb, _⟩⟩
    · exact ⟨rfl, hE⟩
    · exact absurd hb h)

set_option maxRecDepth 100000 in
set_option maxHeartbeats 16000000 in
theorem okeeps_walk (ts : List Ty) (ta : Option Addr) (tn tc : Nat) (htn : ts.length = tn) (d : Nat) (t : Int) (a : Option Addr) (l : List Cl) (c : Nat) (w : World) (hC : Cs d w a l) (hT : Tab w ta ts) (hG : Gl w) :
    Calls Tryd.prog 5 #[.agg #[.slice ta tn tc, .int .i64 t, .slice a l.length c]] w (SayPost w (.bool true)) := by
  have hb0 := heap_alloc_new w (.cells #[.slice ta tn tc, .int .i64 t, .slice a l.length c] 25)
  have HE0 : Hid (Ext [] w (w.alloc (.cells #[.slice ta tn tc, .int .i64 t, .slice a l.length c] 25))) := Ext.alloc _ _ _
  have KA := awake_any (w.alloc (.cells #[.slice ta tn tc, .int .i64 t, .slice a l.length c] 25))
  have HQ : Hid (∀ u, Ext [] (w.alloc (.cells #[.slice ta tn tc, .int .i64 t, .slice a l.length c] 25)) u → u.cell? ⟨w.heap.size, 0, none⟩ = some (.slice ta tn tc) ∧ u.cell? ⟨w.heap.size, 1, none⟩ = some (.int .i64 t) ∧ u.cell? ⟨w.heap.size, 2, none⟩ = some (.slice a l.length c)) := fun u hu =>
    ⟨hu.cell (by rw [cell_of_row _ _ _ _ _ _ hb0]; rfl) (by simp), hu.cell (by rw [cell_of_row _ _ _ _ _ _ hb0]; rfl) (by simp), hu.cell (by rw [cell_of_row _ _ _ _ _ _ hb0]; rfl) (by simp)⟩
  have HC : Hid (∀ u, Ext [] (w.alloc (.cells #[.slice ta tn tc, .int .i64 t, .slice a l.length c] 25)) u → Cs d u a l) := fun u hu => hC.keep0 (HE0.out.trans hu)
  have HT : Hid (∀ u, Ext [] (w.alloc (.cells #[.slice ta tn tc, .int .i64 t, .slice a l.length c] 25)) u → Tab u ta ts) := fun u hu => hT.keep0 (HE0.out.trans hu)
  have HG : Hid (∀ u, Ext [] (w.alloc (.cells #[.slice ta tn tc, .int .i64 t, .slice a l.length c] 25)) u → Gl u) := fun u hu => hG.keep0 (HE0.out.trans hu)
  have HCw : Hid (∀ u, Ext [] w u → Cs d u a l) := fun u hu => hC.keep0 hu
  have hl := hC.len
  have HQS : Hid (w.heap.size < (w.alloc (.cells #[.slice ta tn tc, .int .i64 t, .slice a l.length c] 25)).heap.size) := by show _ < _; simp
  clear hC hT hG hb0
  go_enter Tryd.func5, Tryd.ntmps5
  go_upto_region 3 with (first | (go_at_call 6; refine KA.mono ?_; clear KA; rintro e w1 ⟨rfl, hE1⟩) | fail "no arm")
  generalize w.alloc (.cells #[.slice ta tn tc, .int .i64 t, .slice a l.length c] 25) = w0 at *
  generalize w.heap.size = qb at *
  have X1 := hid hE1
  clear hE1
  obtain ⟨q0, q1, q2⟩ := HQ.out w1 X1.out
  have K1 := rcopy_any d a l _ c w1 (HC.out w1 X1.out) rfl
  go_upto_region 4 with (first | (go_at_call 9; refine K1.mono ?_; clear K1; rintro e w2 ⟨a1, c1, rfl, hac1, hCo1, hE2⟩) | fail "no arm")
  have X2 := hid (X1.out.trans hE2)
  have HV := hid hCo1.low
  have n12 := hid hE2.size
  clear hE2 hac1 hCo1 q0 q1 q2
  obtain ⟨q0, q1, q2⟩ := HQ.out w2 X2.out
  have K2 := copy_any ta ts tn tc w2 (HT.out w2 X2.out) htn
  go_upto_region 5 with (first | (go_at_call 8; refine K2.mono ?_; clear K2; rintro e w3 ⟨at1, ct1, Gx, rfl, hct, _, hTt, hE3⟩) | fail "no arm")
  have X3 := hid (X2.out.trans hE3)
  replace HV := hid (HV.out.keep0 hE3)
  have n23 := hid hE3.size
  have HTt : Hid (∀ u, Ext [] w3 u → Tab u at1 ts) := fun u hu => hTt.keep0 hu
  have HCT := hid hct
  clear hE3 hTt hct q0 q1 q2
  obtain ⟨q0, q1, q2⟩ := HQ.out w3 X3.out
  have K3 := box_any ts at1 tn ct1 htn HCT.out d t a1 l c1 w3 HV.out.cs (HTt.out w3 (Ext.refl _ _)) (HG.out w3 X3.out)
  by_cases hbx : boxE ts d t l = 0
  · obtain ⟨hvk, hbk, hsz⟩ := boxE_zero hbx
    obtain ⟨hbad, _⟩ := vchk_zero hvk
    obtain ⟨hS, ht0, ht1⟩ := bad_zero hbad
    obtain ⟨q, rfl⟩ : ∃ q : Nat, t = q := ⟨t.toNat, by omega⟩
    have HVK := hid hvk
    have HBK := hid hbk
    have HBX := hid hbx
    clear hvk hbk hsz hbad hS ht0 ht1
    go_upto_region 6 with (first | (go_at_call 7; refine K3.mono ?_; clear K3; rintro e w4 ⟨hE4, ⟨hb, _⟩ | ⟨_, a2, c2, rfl, hac2, hCo2⟩⟩; exact absurd HBX.out hb; unfold boV) | fail "no arm")
    have X4 := hid (X3.out.trans hE4)
    have hEc := Ext.alloc [] w4 (.cells #[.int .u64 0, .string ⟨#[]⟩, .int .i64 ((q : Int) + 1), .slice a2 l.length c2] 28)
    have hbc := heap_alloc_new w4 (.cells #[.int .u64 0, .string ⟨#[]⟩, .int .i64 ((q : Int) + 1), .slice a2 l.length c2] 28)
    have HB2 := hid (hCo2.low.keep0 hEc)
    have X5 := hid (X4.out.trans hEc)
    have Y4 := hid hE4
    have n34 := hid hE4.size
    have Y5 := hid hEc
    replace HV := hid (HV.out.keep0 (hE4.trans hEc))
    have HCB : Hid (∀ S u, Ext S (w4.alloc (.cells #[.int .u64 0, .string ⟨#[]⟩, .int .i64 ((q : Int) + 1), .slice a2 l.length c2] 28)) u → w4.heap.size ∉ S → u.cell? ⟨w4.heap.size, 0, none⟩ = some (.int .u64 0) ∧ u.cell? ⟨w4.heap.size, 1, none⟩ = some (.string ⟨#[]⟩) ∧ u.cell? ⟨w4.heap.size, 2, none⟩ = some (.int .i64 ((q : Int) + 1)) ∧ u.cell? ⟨w4.heap.size, 3, none⟩ = some (.slice a2 l.length c2)) := fun S u hu hs =>
      ⟨hu.cell (by rw [cell_of_row _ _ _ _ _ _ hbc]; rfl) hs, hu.cell (by rw [cell_of_row _ _ _ _ _ _ hbc]; rfl) hs, hu.cell (by rw [cell_of_row _ _ _ _ _ _ hbc]; rfl) hs, hu.cell (by rw [cell_of_row _ _ _ _ _ _ hbc]; rfl) hs⟩
    have HS5 : Hid (w4.heap.size < (w4.alloc (.cells #[.int .u64 0, .string ⟨#[]⟩, .int .i64 ((q : Int) + 1), .slice a2 l.length c2] 28)).heap.size) := by show _ < _; simp
    clear hE4 hEc hbc hCo2 hac2 q0 q1 q2
    generalize w4.alloc (.cells #[.int .u64 0, .string ⟨#[]⟩, .int .i64 ((q : Int) + 1), .slice a2 l.length c2] 28) = w5 at *
    generalize hcb : w4.heap.size = cb at *
    obtain ⟨q0, q1, q2⟩ := HQ.out w5 X5.out
    have K4 := box_any ts at1 tn ct1 htn HCT.out d q a1 l c1 w5 HV.out.cs (HTt.out w5 (Y4.out.trans Y5.out)) (HG.out w5 X5.out)
    go_upto_region 7 with (first | (go_at_call 7; refine K4.mono ?_; clear K4; rintro e w6 ⟨hE6, ⟨hb, _⟩ | ⟨_, a3, c3, rfl, hac3, hCo3⟩⟩; exact absurd HBX.out hb; unfold boV) | fail "no arm")
    have X6 := hid (X5.out.trans hE6)
    have hEd := Ext.alloc [] w6 (.cells #[.int .u64 0, .string ⟨#[]⟩, .int .i64 ((q : Int) + 1), .slice a3 l.length c3] 28)
    have hbd := heap_alloc_new w6 (.cells #[.int .u64 0, .string ⟨#[]⟩, .int .i64 ((q : Int) + 1), .slice a3 l.length c3] 28)
    have HB3 := hid (hCo3.low.keep0 hEd)
    have X7 := hid (X6.out.trans hEd)
    have Z57 := hid (hE6.trans hEd)
    replace HV := hid (HV.out.keep0 Z57.out)
    replace HB2 := hid (HB2.out.keep0 Z57.out)
    have HDB : Hid (∀ S u, Ext S (w6.alloc (.cells #[.int .u64 0, .string ⟨#[]⟩, .int .i64 ((q : Int) + 1), .slice a3 l.length c3] 28)) u → w6.heap.size ∉ S → u.cell? ⟨w6.heap.size, 3, none⟩ = some (.slice a3 l.length c3)) := fun S u hu hs => hu.cell (by rw [cell_of_row _ _ _ _ _ _ hbd]; rfl) hs
    have HS7 : Hid (w6.heap.size < (w6.alloc (.cells #[.int .u64 0, .string ⟨#[]⟩, .int .i64 ((q : Int) + 1), .slice a3 l.length c3] 28)).heap.size ∧ w5.heap.size ≤ w6.heap.size) := ⟨by simp, hE6.size⟩
    clear hE6 hEd hbd hCo3 hac3 q0 q1 q2
    generalize w6.alloc (.cells #[.int .u64 0, .string ⟨#[]⟩, .int .i64 ((q : Int) + 1), .slice a3 l.length c3] 28) = w7 at *
    generalize hdb : w6.heap.size = db at *
    obtain ⟨q0, q1, q2⟩ := HQ.out w7 X7.out
    have K5 := rsame_true d a1 a l _ c1 c d w7 HV.out.cs (HC.out w7 X7.out) rfl
    have HK6 : Hid (∀ u, Ext [] w7 u → Calls Tryd.prog 16 #[.slice at1 tn ct1, .slice ta tn tc] u (SayPost u (.bool true))) := fun u hu => tsame_true at1 ta tn ct1 tc ts u (HTt.out u ((Y4.out.trans Y5.out).trans (Z57.out.trans hu))) (HT.out u (X7.out.trans hu)) htn
    have HQ7 : Hid (∀ u, Ext [] w7 u → u.cell? ⟨qb, 0, none⟩ = some (.slice ta tn tc)) := fun u hu => (HQ.out u (X7.out.trans hu)).1
    go_upto_region 11 with (first
      | (go_at_call 15; refine K5.mono ?_; clear K5; rintro e w8 ⟨rfl, hE8⟩; have q0' := HQ7.out w8 hE8; have K6 := HK6.out w8 hE8; replace hE8 := hid hE8)
      | (go_at_call 16; refine K6.mono ?_; clear K6; rintro e w9 ⟨rfl, hE9⟩; replace hE9 := hid (hE8.out.trans hE9))
      | fail "no arm")
    clear q0 q1 q2 q0' HK6 HQ7 hE8
    have Z79 := hE9
    clear hE9
    have X9 := hid (X7.out.trans Z79.out)
    replace HV := hid (HV.out.keep0 Z79.out)
    replace HB2 := hid (HB2.out.keep0 Z79.out)
    replace HB3 := hid (HB3.out.keep0 Z79.out)
    obtain ⟨q0, q1, q2⟩ := HQ.out w9 X9.out
    have Z59 := hid (Z57.out.trans Z79.out)
    obtain ⟨b0, b1, b2, b3⟩ := HCB.out [] w9 Z59.out (by simp)
    have hN59 : w5.heap.size ≤ w9.heap.size := Z59.out.size
    have K7 := unbox_any ts at1 tn ct1 htn HCT.out d q a2 l _ c2 rfl q w9 HB2.out.cs (HTt.out w9 ((Y4.out.trans Y5.out).trans Z59.out)) (HG.out w9 X9.out) HVK.out HBK.out
    unfold boV at K7
    go_upto_region 12 with (first
      | (go_at_call 11; refine K7.mono ?_; clear K7; rintro e w10 ⟨hE10, ⟨hb, _⟩ | ⟨_, av, cv, rfl, hacv, hCov⟩⟩; exact absurd (unE_self HBX.out) hb)
      | fail "no arm")
    have X10 := hid (X9.out.trans hE10)
    have HVv := hid hCov.low
    replace HV := hid (HV.out.keep0 hE10)
    replace HB2 := hid (HB2.out.keep0 hE10)
    replace HB3 := hid (HB3.out.keep0 hE10)
    have Z5x := hid (Z59.out.trans hE10)
    have Z7x := hid (Z79.out.trans hE10)
    have hN9x : w9.heap.size ≤ w10.heap.size := hE10.size
    clear hE10 hCov hacv q0 q1 q2 b0 b1 b2 b3
    obtain ⟨q0, q1, q2⟩ := HQ.out w10 X10.out
    obtain ⟨b0, b1, b2, b3⟩ := HCB.out [] w10 Z5x.out (by simp)
    have K8 := unbox_any ts at1 tn ct1 htn HCT.out d q a2 l _ c2 rfl q w10 HB2.out.cs (HTt.out w10 ((Y4.out.trans Y5.out).trans Z5x.out)) (HG.out w10 X10.out) HVK.out HBK.out
    unfold boV at K8
    go_upto_region 13 with (first
      | (go_at_call 11; refine K8.mono ?_; clear K8; rintro e w11 ⟨hE11, ⟨hb, _⟩ | ⟨_, aw, cw, rfl, hacw, hCow⟩⟩; exact absurd (unE_self HBX.out) hb)
      | fail "no arm")
    have X11 := hid (X10.out.trans hE11)
    have HVw := hid hCow
    replace HVv := hid (HVv.out.keep0 hE11)
    replace HV := hid (HV.out.keep0 hE11)
    replace HB2 := hid (HB2.out.keep0 hE11)
    replace HB3 := hid (HB3.out.keep0 hE11)
    have Z5y := hid (Z5x.out.trans hE11)
    have Z7y := hid (Z7x.out.trans hE11)
    clear hE11 hCow hacw q0 q1 q2 b0 b1 b2 b3
    -- the order of the blocks
    have HO : Hid (w0.heap.size ≤ w1.heap.size ∧ w1.heap.size ≤ w2.heap.size ∧ w2.heap.size ≤ w3.heap.size ∧ w3.heap.size ≤ cb ∧ cb < w5.heap.size ∧ w5.heap.size ≤ db ∧ db < w7.heap.size ∧ w7.heap.size ≤ w9.heap.size ∧ w9.heap.size ≤ w10.heap.size) := by
      refine ⟨X1.out.size, n12.out, n23.out, ?_, HS5.out, HS7.out.2, HS7.out.1, Z79.out.size, hN9x⟩
      exact n34.out
    obtain ⟨Sv, hSv, hrv⟩ := HVv.out.row
    have HSv := hid hSv
    have N0 : Hid (Nv w11 w11 Sv av l 0) := ⟨Ext.refl _ _, fun h => by obtain ⟨b, cs, h1, h2, h3, h4, _⟩ := hrv h; exact ⟨b, cs, h1, h2, h3, fun j _ hj => h4 j hj⟩⟩
    clear hrv hSv
    clear hN59 hN9x n12 n23 n34
    go_wp2_with fail
    go_loopw [13] (fun u wr => ∃ k : Nat, u = .int .i64 k ∧ k ≤ l.length ∧ Nv w11 wr Sv av l k) (fun u _ => (l.length - (intOf u)).toNat)
    case atStart => exact ⟨0, rfl, Nat.zero_le _, N0.out⟩
    case round =>
      obtain ⟨k, rfl, hk, hN⟩ := hrel
      have HN := hid hN
      clear hN
      by_cases hlt : k < l.length
      · obtain ⟨b, cs, hS, ha, hr, hn⟩ := HN.out.at_ (by omega)
        subst ha
        subst hS
        have x0 := hn k (by omega) hlt
        have xf : ∀ i, wr.frozen? ⟨b, i, none⟩ = false := fun i => frozen_of_row _ _ i _ _ hr
        have hki : (k : Int) < l.length := by omega
        clear hr hn
        go_wp2_with fail
        go_roundw
        case rel => exact ⟨k + 1, by go_num, by omega, HN.out.set hlt _⟩
        case measure => simp [intOf]; omega
      · have hke : k = l.length := by omega
        have hki : ¬ (k : Int) < l.length := by omega
        have E12 := HN.out.ext
        clear HN hlt hk
        have X12 := hid (X11.out.on E12 (fun x hx => by have := (HSv.out x hx).1.1; have := HO.out; omega))
        have HVw2 := hid (HVw.out.keep E12 (fun x hx hp => by have := (HSv.out x hx).1.2; omega))
        have HV2 := hid (HV.out.keep E12 (fun x hx hp => by have := (HSv.out x hx).1.1; have := HO.out; omega))
        have HB22 := hid (HB2.out.keep E12 (fun x hx hp => by have := (HSv.out x hx).1.1; have := HO.out; have := hp.2; omega))
        have HB32 := hid (HB3.out.keep E12 (fun x hx hp => by have := (HSv.out x hx).1.1; have := HO.out; have := hp.2; omega))
        have hcS : cb ∉ Sv := fun hx => by have := (HSv.out cb hx).1.1; have := HO.out; omega
        have hdS : db ∉ Sv := fun hx => by have := (HSv.out db hx).1.1; have := HO.out; omega
        have HE12 := hid E12
        clear E12
        have HC5 : Hid (∀ u, Ext [] wr u → u.cell? ⟨cb, 3, none⟩ = some (.slice a2 l.length c2)) := fun u hu => (HCB.out Sv u (((Z5y.out.mono (by simp)).trans HE12.out).trans (hu.mono (by simp))) hcS).2.2.2
        have HD7 : Hid (∀ u, Ext [] wr u → u.cell? ⟨db, 3, none⟩ = some (.slice a3 l.length c3)) := fun u hu => HDB.out Sv u (((Z7y.out.mono (by simp)).trans HE12.out).trans (hu.mono (by simp))) hdS
        have HQ12 : Hid (∀ u, Ext [] wr u → u.cell? ⟨qb, 2, none⟩ = some (.slice a l.length c)) := fun u hu => (HQ.out u (X12.out.trans hu)).2.2
        have HC12 : Hid (∀ u, Ext [] wr u → Cs d u a l) := fun u hu => HC.out u (X12.out.trans hu)
        have hqS : Hid (qb < w0.heap.size) := HQS
        have HX12 := hid (HE0.out.trans X12.out)
        clear HV HB2 HB3 HVw HCB HDB HE12 X1 X2 X3 X4 X5 X6 X7 X9 X10 X11 Y4 Y5 Z57 Z59 Z5x Z5y Z79 Z7x Z7y HTt HT HG hcS hdS N0 HVv HBX HVK HBK HC HQ X12 HCT HS5 HS7
        generalize hw12 : wr = w12 at *
        have q2 := HQ12.out w12 (Ext.refl _ _)
        have K9 := rsame_true d aw a l _ cw c d w12 HVw2.out.cs (HC12.out w12 (Ext.refl _ _)) rfl
        have HK10 : Hid (∀ u, Ext [] w12 u → Calls Tryd.prog 15 #[.slice a2 l.length c2, .slice a l.length c] u (SayPost u (.bool true))) := fun u hu => rsame_true d a2 a l _ c2 c d u (HB22.out.keep0 hu).cs (HC12.out u hu) rfl
        go_upto_region 19 with (first
          | (go_at_call 15; (with_reducible refine Calls.mono K9 ?_); clear K9; rintro e w13 ⟨rfl, hE13⟩; have q2' := HQ12.out w13 hE13; have b3' := HC5.out w13 hE13; have K10 := HK10.out w13 hE13; replace hE13 := hid hE13)
          | (go_at_call 15; refine K10.mono ?_; clear K10; rintro e w14 ⟨rfl, hE14⟩; replace hE14 := hid (hE13.out.trans hE14))
          | fail "no arm")
        clear q2 q2' b3' HK10 hE13
        have Z := hE14
        clear hE14
        replace HVw2 := hid (HVw2.out.keep0 Z.out)
        replace HV2 := hid (HV2.out.keep0 Z.out)
        replace HB22 := hid (HB22.out.keep0 Z.out)
        replace HB32 := hid (HB32.out.keep0 Z.out)
        obtain ⟨Sc, hSc, hrc⟩ := HB22.out.row
        have HSc := hid hSc
        have T0 : Hid (Tv w14 w14 Sc a2 l) := ⟨Ext.refl _ _, fun h => by obtain ⟨b, cs, h1, h2, h3, _, h5⟩ := hrc h; exact ⟨b, cs, h1, h2, h3, h5⟩⟩
        have hcS : Hid (cb ∉ Sc) := fun hx => by have := (HSc.out cb hx).1.2; omega
        have hdS : Hid (db ∉ Sc) := fun hx => by have := (HSc.out db hx).1.2; have := HO.out; omega
        have hqS2 : Hid (qb ∉ Sc) := fun hx => by have := (HSc.out qb hx).1.1; have := HO.out; have := hqS.out; omega
        have HC14 : Hid (∀ u, Ext Sc w14 u → u.cell? ⟨cb, 3, none⟩ = some (.slice a2 l.length c2)) := fun u hu => hu.cell (HC5.out w14 Z.out) hcS.out
        have HD14 : Hid (∀ u, Ext Sc w14 u → u.cell? ⟨db, 3, none⟩ = some (.slice a3 l.length c3)) := fun u hu => hu.cell (HD7.out w14 Z.out) hdS.out
        have HQ14 : Hid (∀ u, Ext Sc w14 u → u.cell? ⟨qb, 2, none⟩ = some (.slice a l.length c)) := fun u hu => hu.cell (HQ12.out w14 Z.out) hqS2.out
        have HA14 : Hid (∀ u, Ext Sc w14 u → Ext [] w u ∧ Cs d u a l ∧ Cs d u a3 l ∧ Cs d u a1 l ∧ Cs d u aw l) := fun u hu => by
          have hx : Ext [] w u := (HX12.out.trans Z.out).on hu (fun x hx => by have := (HSc.out x hx).1.1; have := HO.out; have := HE0.out.size; omega)
          refine ⟨hx, HCw.out u hx, (HB32.out.keep hu (fun x hx hp => by have := (HSc.out x hx).1.2; have := HO.out; have := hp.1; omega)).cs, (HV2.out.keep hu (fun x hx hp => by have := (HSc.out x hx).1.1; have := HO.out; have := hp.2; omega)).cs, (HVw2.out.keep hu (fun x hx hp => by have := (HSc.out x hx).1.2; have := HO.out; omega)).cs⟩
        clear hrc hSc hcS hdS hqS2 HC5 HD7 HQ12 HC12 HB32 HV2 HVw2 HB22 HX12 Z HSc
        go_wp2_with fail
        go_loopw [14] (fun u wr => ∃ k : Nat, u = .int .i64 k ∧ k ≤ l.length ∧ Tv w14 wr Sc a2 l) (fun u _ => (l.length - (intOf u)).toNat)
        case atStart => exact ⟨0, rfl, Nat.zero_le _, T0.out⟩
        case round =>
          obtain ⟨k2, rfl, hk2, hT2⟩ := hrel
          have HT2 := hid hT2
          have b3 := HC14.out wr hT2.ext
          clear hT2
          by_cases hlt2 : k2 < l.length
          · obtain ⟨b, cs, hS, ha, hr, hn⟩ := HT2.out.at_ (by omega)
            subst ha
            subst hS
            obtain ⟨v1, x1⟩ := hn k2 hlt2
            have xf : ∀ i, wr.frozen? ⟨b, i, none⟩ = false := fun i => frozen_of_row _ _ i _ _ hr
            have hki2 : (k2 : Int) < l.length := by omega
            clear hr hn
            go_wp2_with fail
            go_roundw
            case rel => exact ⟨k2 + 1, by go_num, by omega, HT2.out.set hlt2 _⟩
            case measure => simp [intOf]; omega
          · have hki2 : ¬ (k2 : Int) < l.length := by omega
            have E := HT2.out.ext
            have d3 := HD14.out wr E
            have q2 := HQ14.out wr E
            have K11 := rsame_true d a3 a l _ c3 c d wr (HA14.out wr E).2.2.1 (HA14.out wr E).2.1 rfl
            have HK12 : Hid (∀ u, Ext [] wr u → u.cell? ⟨qb, 2, none⟩ = some (.slice a l.length c) ∧ Calls Tryd.prog 15 #[.slice a1 l.length c1, .slice a l.length c] u (SayPost u (.bool true)) ∧ Calls Tryd.prog 15 #[.slice aw l.length cw, .slice a l.length c] u (SayPost u (.bool true))) := fun u hu => by
              have E2 := E.trans (hu.mono (by simp))
              obtain ⟨_, g1, g2, g3, g4⟩ := HA14.out u E2
              exact ⟨HQ14.out u E2, rsame_true d a1 a l _ c1 c d u g3 g1 rfl, rsame_true d aw a l _ cw c d u g4 g1 rfl⟩
            have HX := hid (HA14.out wr E).1
            clear HT2 hlt2 hk2 E HA14 HQ14 HD14 HC14 T0
            go_wp2_with (first
              | (go_at_call 15; (with_reducible refine Calls.mono K11 ?_); clear K11; rintro e w15 ⟨rfl, hE15⟩; obtain ⟨q2', K12, _⟩ := HK12.out w15 hE15; replace hE15 := hid hE15)
              | (go_at_call 15; (with_reducible refine Calls.mono K12 ?_); clear K12; rintro e w16 ⟨rfl, hE16⟩; obtain ⟨q2'', _, K13⟩ := HK12.out w16 (hE15.out.trans hE16); replace hE16 := hid (hE15.out.trans hE16))
              | (go_at_call 15; (with_reducible refine Calls.mono K13 ?_); clear K13; rintro e w17 ⟨rfl, hE17⟩; replace hE17 := hid (hE16.out.trans hE17))
              | fail "no arm")
            go_ret
            exact ⟨rfl, HX.out.trans hE17.out⟩
  · have hbe : (boxE ts d t l != 0) = true := by simpa using hbx
    have hbe2 : (boxE ts d t l != boxE ts d t l) = false := by simp
    clear K3
    have K3 := box_err ts at1 tn ct1 htn HCT.out d t a1 l c1 w3 HV.out.cs (HTt.out w3 (Ext.refl _ _)) (HG.out w3 X3.out) hbx
    have HK4 : Hid (∀ u, Ext [] w3 u → u.cell? ⟨qb, 0, none⟩ = some (.slice ta tn tc) ∧ u.cell? ⟨qb, 1, none⟩ = some (.int .i64 t) ∧ u.cell? ⟨qb, 2, none⟩ = some (.slice a l.length c) ∧ Calls Tryd.prog 7 #[.slice at1 tn ct1, .int .i64 t, .slice a1 l.length c1] u (SayPost u (.tuple #[.agg #[.int .u64 0, .string ⟨#[]⟩, .int .i64 0, .slice none 0 0], .int .i64 (boxE ts d t l)])) ∧ Calls Tryd.prog 15 #[.slice a1 l.length c1, .slice a l.length c] u (SayPost u (.bool true)) ∧ Calls Tryd.prog 16 #[.slice at1 tn ct1, .slice ta tn tc] u (SayPost u (.bool true))) := fun u hu => by
      obtain ⟨g1, g2, g3⟩ := HQ.out u (X3.out.trans hu)
      exact ⟨g1, g2, g3, box_err ts at1 tn ct1 htn HCT.out d t a1 l c1 u (HV.out.keep0 hu).cs (HTt.out u hu) (HG.out u (X3.out.trans hu)) hbx, rsame_true d a1 a l _ c1 c d u (HV.out.keep0 hu).cs (HC.out u (X3.out.trans hu)) rfl, tsame_true at1 ta tn ct1 tc ts u (HTt.out u hu) (HT.out u (X3.out.trans hu)) htn⟩
    have HX3 := hid (HE0.out.trans X3.out)
    clear hbx
    generalize boxE ts d t l = be at *
    go_upto_region 6 with (first | (go_at_call 7; refine K3.mono ?_; clear K3; rintro e w4 ⟨rfl, hE4⟩) | fail "no arm")
    have E5 := hE4.trans (Ext.alloc [] w4 (.cells #[.int .u64 0, .string ⟨#[]⟩, .int .i64 0, .slice none 0 0] 28))
    clear q0 q1 q2
    obtain ⟨q0, q1, q2, K4, _, _⟩ := HK4.out _ E5
    have HE5 := hid E5
    clear hE4 E5
    generalize w4.alloc (.cells #[.int .u64 0, .string ⟨#[]⟩, .int .i64 0, .slice none 0 0] 28) = w5 at *
    generalize w4.heap.size = cb at *
    go_upto_region 7 with (first | (go_at_call 7; refine K4.mono ?_; clear K4; rintro e w6 ⟨rfl, hE6⟩) | fail "no arm")
    have E7 := (HE5.out.trans hE6).trans (Ext.alloc [] w6 (.cells #[.int .u64 0, .string ⟨#[]⟩, .int .i64 0, .slice none 0 0] 28))
    clear q0 q1 q2
    obtain ⟨q0, q1, q2, _, K5, _⟩ := HK4.out _ E7
    have HE7 := hid E7
    clear hE6 E7 HE5
    generalize w6.alloc (.cells #[.int .u64 0, .string ⟨#[]⟩, .int .i64 0, .slice none 0 0] 28) = w7 at *
    generalize w6.heap.size = db at *
    go_wp2_with (first
      | (go_at_call 15; refine K5.mono ?_; clear K5; rintro e w8 ⟨rfl, hE8⟩; obtain ⟨q0', _, _, _, _, K6⟩ := HK4.out w8 (HE7.out.trans hE8); replace hE8 := hid (HE7.out.trans hE8))
      | (go_at_call 16; refine K6.mono ?_; clear K6; rintro e w9 ⟨rfl, hE9⟩; replace hE9 := hid (hE8.out.trans hE9))
      | fail "no arm")
    go_ret
    exact ⟨rfl, HX3.out.trans hE9.out⟩
end Go.Proofs.YtlnncapokdoilaaDoor
