/-
  SouN, SouO: joined by program; no statement is proved here.
-/
import Derived.Test.YtkknadkcpndnaaaDoorZD
/-
  sound: words that are no table are told so; no statement is proved here.
-/
namespace Go.Proofs.YtkknadkcpndnaaaDoor
open Go.RowKit Go.Shelf
open Pr (Gp GpI sq pl)
attribute [local go_sem] Oper.semAt_some run_store_func

theorem shaped_no (a : Option Addr) (n c : Nat) (T : List Nat) (hn : T.length = n) (hnb : n ≤ 17592186044416) (hlt : ∀ x ∈ T, x < 18446744073709551616) (hno : ∀ G, ¬ Shp T G) (w : World) (hT : Wd w a T) :
    Calls Tryd.prog 61 #[.slice a n c] w fun e w' => e = .returned (.bool false) ∧ w' = w := by
  by_cases h3 : n < 3
  · have h3' : (n : Int) < 3 := by omega
    clear hno hlt hT hn
    go_enter Tryd.func61, Tryd.ntmps61
    go_wp2
    go_ret
    exact ⟨rfl, rfl⟩
  · have h3' : ¬ (n : Int) < 3 := by omega
    obtain ⟨b, o, rfl, hc⟩ := hT.at_ (by rintro rfl; simp at hn; omega)
    have c0 := hc 0 (by omega)
    rw [Nat.add_zero] at c0
    have ht64 := getD_lt64 hlt 0
    by_cases h4 : 4096 < T.getD 0 0
    · have h4' : (4096 : Int) < (T.getD 0 0 : Nat) := by omega
      generalize T.getD 0 0 = t0 at *
      clear hno hlt hT hn hc
      go_enter Tryd.func61, Tryd.ntmps61
      go_wp2
      go_ret
      exact ⟨rfl, rfl⟩
    · have h4' : ¬ (4096 : Int) < (T.getD 0 0 : Nat) := by omega
      have K1 := groupsOf_any (some ⟨b, o, none⟩) n c T w hT hn (by omega) (by omega)
      by_cases hg : Gp (T.getD 0 0)
      · have hl : ((n : Nat) : Int) ≠ ((3 + 17 * T.getD 0 0 : Nat) : Int) := fun q => hno _ ⟨hg, rfl, by omega, hlt⟩
        have K2 := fun u => tallowed_yes _ hg u
        have K3 := fun u => wordsOf_any (T.getD 0 0) (by omega) u
        have hl' : (((n : Nat) : Int) == ((3 + 17 * T.getD 0 0 : Nat) : Int)) = false := by simpa using hl
        clear hno hlt hT hn hc hg
        generalize (3 + 17 * T.getD 0 0 : Nat) = s at *
        generalize T.getD 0 0 = t0 at *
        go_enter Tryd.func61, Tryd.ntmps61
        go_wp2_with (first | (go_at_call 62; refine met K1 ?_) | (go_at_call 49; refine met (K2 _) ?_) | (go_at_call 50; refine met (K3 _) ?_))
        go_ret
        exact ⟨rfl, rfl⟩
      · have K2 := fun u => tallowed_no _ (fun q => hg (Pr.gpI_nat.1 q)) u
        clear hno hlt hT hn hc hg
        generalize T.getD 0 0 = t0 at *
        go_enter Tryd.func61, Tryd.ntmps61
        go_wp2_with (first | (go_at_call 62; refine met K1 ?_) | (go_at_call 49; refine met (K2 _) ?_))
        go_ret
        exact ⟨rfl, rfl⟩
/-- An entry is found. -/
def FO1 (T : List Nat) (G own i : Nat) : Prop := (fl (cw T own)).testBit i = true → ∃ k, k < G ∧ pl (hsw T own i / 128) G k = own ∧ ∀ n, n < k → hasE T (pl (hsw T own i / 128) G n) = false
/-- The entries of a group are found. -/
def FO (T : List Nat) (G own : Nat) : Prop := ∀ i, i < 8 → FO1 T G own i
set_option maxRecDepth 100000 in
set_option maxHeartbeats 2000000 in
theorem allFound_any (a : Option Addr) (c : Nat) (T : List Nat) (G : Nat) (r : Bool) (hr : r = true ↔ Fnd T G) (hS : Shp T G) (w : World) (hT : Wd w a T) :
    Calls Tryd.prog 68 #[.slice a (3 + 17 * G) c] w (SayPost w (.bool r)) := by
  have hG := hS.gp.le
  have hG0 := hS.gp.pos
  have hlen := hS.len
  have K1 := fun u (hu : Ext [] w u) => groupsOf_any a (3 + 17 * G) c T u (hT.keep0 hu) hlen (by omega) (by rw [hS.g0]; exact hG)
  rw [hS.g0] at K1
  have hmk := run_make_row' (P := Tryd.prog) 125 4 (.bool false) 1 Tryd.underlying125 info4 rfl .i64 .i64 G (by omega) (by omega) w
  have hB0 : Bw (w.alloc (.cells (madeCells #[.bool false] G) 4)) w.heap.size T G 0 := by
    have e : madeCells #[.bool false] G = (bls T G 0).toArray := by
      apply Array.toList_inj.1
      rw [toList_madeCells_one]
      apply List.ext_getElem?
      intro j
      by_cases hj : j < G
      · rw [List.getElem?_replicate, if_pos hj, bls_at T hj]; simp
      · rw [List.getElem?_replicate, if_neg hj]; simp only [bls]; rw [List.getElem?_map, List.getElem?_eq_none (by simp; omega)]; rfl
    unfold Bw
    rw [← e]
    exact heap_alloc_new w _
  have hE0 := Ext.alloc [] w (.cells (madeCells #[.bool false] G) 4)
  obtain ⟨g0, hg0⟩ : ∃ g0, w.heap.size = g0 := ⟨_, rfl⟩
  rw [hg0] at hmk hB0
  obtain ⟨W0, hW0⟩ : ∃ W0, w.alloc (.cells (madeCells #[.bool false] G) 4) = W0 := ⟨_, rfl⟩
  rw [hW0] at hmk hB0 hE0
  have HB0 := hid hB0
  have HE0 := hid hE0
  have HT := hid hT
  have HL := hid hlen
  have HS := hid hS
  have HF := hid hr
  have hne : T ≠ [] := by rintro rfl; simp at hlen; omega
  obtain ⟨b, o, rfl, hcc⟩ := hT.at_ hne
  clear hcc
  have K1w := K1 w (Ext.refl _ _)
  clear hB0 hE0 hT hlen hS hr hW0 K1
  go_enter Tryd.func68, Tryd.ntmps68
  go_wp2_with (first | (go_at_call 62; refine met K1w ?_))
  clear hmk K1w
  go_loopw [19] (fun q wr => ∃ k : Nat, q = .int .i64 k ∧ k ≤ G ∧ Bw wr g0 T G k ∧ Ext [] w wr) (fun q _ => (G - (intOf q)).toNat)
  case atStart => exact ⟨0, rfl, Nat.zero_le _, HB0.out, HE0.out⟩
  case round =>
    clear HB0 HE0
    obtain ⟨k, rfl, hk, hB, hE⟩ := hrel
    by_cases hkG : k < G
    · have hki : (k : Int) < G := by omega
      obtain ⟨_, _, heq, hc⟩ := (HT.out.keep0 hE).at_ hne
      cases heq
      have cC := hc (3 + 17 * k) (by rw [HL.out]; omega)
      rw [show T.getD (3 + 17 * k) 0 = cw T k from rfl] at cC
      have hcw := HS.out.cw_lt k
      have KC := fun u => controlAt_any k (by omega) u
      have KE := fun u => empty_any (cw T k) hcw u
      have cB : wr.cell? ⟨g0, k, none⟩ = some (.bool (decide (k < k) && hasE T k)) := by rw [cell_of_row _ _ _ _ _ _ hB]; rw [List.getElem?_toArray, bls_at T hkG]
      have fB := frozen_of_row wr g0 k _ 4 hB
      have hbe : ((mt (cw T k) 128 : Int) != 0) = hasE T k := by
        unfold hasE
        by_cases q : mt (cw T k) 128 = 0
        · simp [q]
        · have : ((mt (cw T k) 128 : Int) != 0) = true := by simpa using q
          rw [this]; simp [q]
      have HB' : Hid (Bw (wr.setCell ⟨g0, k, none⟩ (.bool (hasE T k))) g0 T G (k + 1)) := by
        show _ = _
        rw [heap_setCell_same wr g0 k _ 4 _ hB]
        rw [← bls_set T hkG]
        simp
      have HE' := hid (hE.on (Ext.setCell [g0] wr ⟨g0, k, none⟩ (.bool (hasE T k)) (by simp)) (by simp; omega))
      generalize (decide (k < k) && hasE T k) = ob at *
      generalize mt (cw T k) 128 = me at *
      generalize cw T k = cx at *
      generalize hasE T k = he at *
      clear hB hE hc
      go_wp2_with (first | (go_at_call 52; refine met (KC _) ?_) | (go_at_call 73; refine met (KE _) ?_))
      go_roundw
      case rel => exact ⟨k + 1, by go_num, by omega, HB'.out, HE'.out⟩
      case measure => simp [intOf]; omega
    · obtain rfl : k = G := by omega
      have HB := hid hB
      have HE := hid hE
      clear hB hE
      go_wp2_with fail
      obtain ⟨V, hV⟩ : ∃ V, V = wr := ⟨_, rfl⟩
      rw [← hV] at HB HE ⊢
      clear hV
      go_loopw [34] (fun q wr => ∃ m : Nat, q = .int .i64 m ∧ m ≤ k ∧ (∀ x, x < m → FO T k x) ∧ Ext [] V wr) (fun q _ => (k - (intOf q)).toNat)
      case atStart => exact ⟨0, rfl, Nat.zero_le _, fun x hx => absurd hx (by omega), Ext.refl _ _⟩
      case round =>
        obtain ⟨m, rfl, hm, hdone, hX⟩ := hrel
        have HDone := hid hdone
        clear hdone
        by_cases hmk2 : m < k
        · have hmi : (m : Int) < k := by omega
          obtain ⟨_, _, heq, hc⟩ := (HT.out.keep0 (HE.out.trans hX)).at_ hne
          cases heq
          have cC := hc (3 + 17 * m) (by rw [HL.out]; omega)
          rw [show T.getD (3 + 17 * m) 0 = cw T m from rfl] at cC
          have hcw := HS.out.cw_lt m
          have KC := fun u => controlAt_any m (by omega) u
          have KF := fun u => full_any (cw T m) hcw u
          have HF0 := hid (fun i (hf : (fl (cw T m)).testBit i = false) => (show FO1 T k m i from fun q => by rw [hf] at q; cases q))
          have HFx := hid (fun i (hi : i < 8) (hf : (fl (cw T m)).testBit i = true) n (hn : n < k) (hpl : pl (hsw T m i / 128) k n = m) j (hj : j < n) (he : hasE T (pl (hsw T m i / 128) k j) = true) => (show r = false from by
            rw [Bool.eq_false_iff]
            intro q
            obtain ⟨n2, hn2, hp2, h2⟩ := (HF.out.1 q) m hmk2 i hi hf
            have := Pr.pl_inj HS.out.gp hn2 hn (hp2.trans hpl.symm)
            subst this
            rw [h2 j hj] at he
            cases he))
          have hfl := fl_lt (cw T m)
          generalize fl (cw T m) = f at *
          generalize cw T m = cx at *
          have HX := hid hX
          clear hX hc
          go_wp2_with fail
          go_step3
          go_wp2_with (first | (go_at_call 52; refine met (KC _) ?_) | (go_at_call 66; refine met (KF _) ?_))
          go_step3
          go_wp2_with fail
          clear cC KC KF
          obtain ⟨V2, hV2⟩ : ∃ V2, V2 = wr := ⟨_, rfl⟩
          rw [← hV2] at HX ⊢
          clear hV2
          go_loopw [43] (fun q wr => ∃ i : Nat, q = .int .i64 i ∧ i ≤ 8 ∧ (∀ j, j < i → FO1 T k m j) ∧ Ext [] V2 wr) (fun q _ => (8 - (intOf q)).toNat)
          case atStart => exact ⟨0, rfl, Nat.zero_le _, fun j hj => absurd hj (by omega), Ext.refl _ _⟩
          case round =>
            obtain ⟨i, rfl, hi8, hsl, hX2⟩ := hrel
            have HSl := hid hsl
            clear hsl
            by_cases hi : i < 8
            · have hii : (i : Int) < 8 := by omega
              have hbit := bit_intF f i hfl
              have HX2 := hid hX2
              cases hf : f.testBit i with
              | false =>
                rw [hf] at hbit
                simp only [Bool.false_eq_true, if_false] at hbit
                clear hX2
                go_wp2_with fail
                go_roundw
                case rel => exact ⟨i + 1, by go_num, by omega, fun j hj => by
                  by_cases e : j = i
                  · subst e; exact HF0.out j hf
                  · exact HSl.out j (by omega), HX2.out⟩
                case measure => simp [intOf]; omega
              | true =>
                rw [hf] at hbit
                simp only [if_true] at hbit
                obtain ⟨n, hn, hpl⟩ := Pr.pl_onto (h := hsw T m i / 128) HS.out.gp hmk2
                have HBad := hid (HFx.out i hi hf n hn hpl)
                have HNew := hid (fun (hno : ∀ x, x < n → hasE T (pl (hsw T m i / 128) k x) = false) => (show ∀ j, j < i + 1 → FO1 T k m j from fun j hj => by
                  by_cases e : j = i
                  · subst e; exact fun _ => ⟨n, hn, hpl, hno⟩
                  · exact HSl.out j (by omega)))
                obtain ⟨_, _, heq, hc⟩ := (HT.out.keep0 (HE.out.trans (HX.out.trans hX2))).at_ hne
                cases heq
                have cH := hc (3 + 17 * m + 1 + 2 * i) (by rw [HL.out]; omega)
                rw [show T.getD (3 + 17 * m + 1 + 2 * i) 0 = hsw T m i from rfl] at cH
                have hhs := HS.out.hs_lt m i
                have KH := fun u => hashAt_any m i (by omega) (by omega) u
                have KS := fun u => split_any (hsw T m i) hhs u
                have hgp := HS.out.gp
                have KA := fun j (hj : j < k) u => Pr.at_ok (hsw T m i / 128) k j hgp hj u
                have HPl := hid hpl
                have HInj := hid (fun j (hj : j < k) e => Pr.pl_inj (h := hsw T m i / 128) (i := j) (j := n) hgp hj hn e)
                have HLt := hid (fun j => Pr.pl_lt (hsw T m i / 128) hgp.pos j)
                have hm128 : hsw T m i % 128 < 128 := Nat.mod_lt _ (by omega)
                clear hX2 hc hpl hgp
                generalize hsw T m i / 128 = h1 at *
                generalize hsw T m i % 128 = h2 at *
                generalize hsw T m i = hv at *
                go_wp2_with (first | (go_at_call 77; refine met (KH _) ?_) | (go_at_call 69; refine met (KS _) ?_))
                clear cH KH KS
                obtain ⟨V3, hV3⟩ : ∃ V3, V3 = wr := ⟨_, rfl⟩
                rw [← hV3] at HX2 ⊢
                clear hV3
                go_loopw [62] (fun q wr => ∃ j : Nat, q = .int .i64 j ∧ j ≤ n ∧ (∀ x, x < j → hasE T (pl h1 k x) = false) ∧ Ext [] V3 wr) (fun q _ => (k - (intOf q)).toNat)
                case atStart => exact ⟨0, rfl, Nat.zero_le _, fun j hj => absurd hj (by omega), Ext.refl _ _⟩
                case round =>
                  obtain ⟨j, rfl, hj, hno, hX3⟩ := hrel
                  have HNo := hid hno
                  clear hno
                  have hjk : j < k := by omega
                  have hji : (j : Int) < k := by omega
                  have KA' := KA j hjk
                  have hplt := HLt.out j
                  have HX3 := hid hX3
                  by_cases hjn : j = n
                  · subst hjn
                    rw [HPl.out] at KA' hplt
                    clear KA hX3
                    go_wp2_with (first | (go_at_call 80; refine met (KA' _) ?_))
                    go_roundw
                    case rel => exact ⟨i + 1, by go_num, by omega, HNew.out HNo.out, HX2.out.trans HX3.out⟩
                    case measure => simp [intOf]; omega
                  · have hne2 : pl h1 k j ≠ m := fun e => hjn (HInj.out j hjk (by rw [HPl.out]; exact e))
                    have hB3 : Bw wr g0 T k k := (HX.out.trans (HX2.out.trans hX3)).keep HB.out (by simp)
                    have hneb : ((pl h1 k j : Int) == (m : Int)) = false := by simp; omega
                    cases hno : hasE T (pl h1 k j) with
                    | false =>
                      have cB : wr.cell? ⟨g0, pl h1 k j, none⟩ = some (.bool false) := by
                        rw [cell_of_row _ _ _ _ _ _ hB3, List.getElem?_toArray, bls_at T hplt, hno]
                        simp
                      have HNo2 : Hid (∀ x, x < j + 1 → hasE T (pl h1 k x) = false) := fun x hx => by
                        by_cases e : x = j
                        · subst e; exact hno
                        · exact HNo.out x (by omega)
                      clear KA hX3 hno hB3
                      generalize hpp : pl h1 k j = p at *
                      clear hpp
                      go_wp2_with (first | (go_at_call 80; refine met (KA' _) ?_))
                      go_roundw
                      case rel => exact ⟨j + 1, by go_num, by omega, HNo2.out, HX3.out⟩
                      case measure => simp [intOf]; omega
                    | true =>
                      have cB : wr.cell? ⟨g0, pl h1 k j, none⟩ = some (.bool true) := by
                        rw [cell_of_row _ _ _ _ _ _ hB3, List.getElem?_toArray, bls_at T hplt, hno]
                        simp [hplt]
                      have hr2 := HBad.out j (by omega) hno
                      subst hr2
                      have HFin := hid (HE.out.trans (HX.out.trans (HX2.out.trans hX3)))
                      clear KA hX3 hno hB3
                      generalize hpp : pl h1 k j = p at *
                      clear hpp
                      go_wp2_with (first | (go_at_call 80; refine met (KA' _) ?_))
                      go_ret
                      exact ⟨rfl, HFin.out⟩
            · obtain rfl : i = 8 := by omega
              have HX2 := hid hX2
              have HNx : Hid (∀ x, x < m + 1 → FO T k x) := fun x hx => by
                by_cases e : x = m
                · subst e; exact fun i hi => HSl.out i hi
                · exact HDone.out x (by omega)
              clear hX2
              go_wp2_with fail
              apply_assumption
              go_wp2_with fail
              go_roundw
              case rel => exact ⟨m + 1, by go_num, by omega, HNx.out, HX.out.trans HX2.out⟩
              case measure => simp [intOf]; omega
        · obtain rfl : m = k := by omega
          have HX := hid hX
          have hr2 : r = true := HF.out.2 (fun own ho i hi => HDone.out own ho i hi)
          subst hr2
          clear hX
          go_wp2
          go_ret
          exact ⟨rfl, HE.out.trans HX.out⟩
end Go.Proofs.YtkknadkcpndnaaaDoor

/-
  sound of words that are no table; no statement is proved here.
-/
namespace Go.Proofs.YtkknadkcpndnaaaDoor
open Go.RowKit Go.Shelf
open Pr (Gp GpI sq pl)
attribute [local go_sem] Oper.semAt_some run_store_func

set_option maxRecDepth 100000 in
set_option maxHeartbeats 1000000 in
theorem sound_shp (a : Option Addr) (c : Nat) (T : List Nat) (G : Nat) (hP : Shp T G) (hN : ¬ Sd T G) (w : World) (hT : Wd w a T) :
    Calls Tryd.prog 38 #[.slice a (3 + 17 * G) c] w (SayPost w (.bool false)) := by
  have hG := hP.gp.le
  have hlen := hP.len
  have K0 := shaped_true a c T G hP w hT
  have K1 := fun u (hu : Ext [] w u) => groupsOf_any a (3 + 17 * G) c T u (hT.keep0 hu) hlen (by omega) (by rw [hP.g0]; exact hG)
  rw [hP.g0] at K1
  have K1w := K1 w (Ext.refl _ _)
  obtain ⟨r, hr⟩ : ∃ r : Bool, r = true ↔ Fnd T G := by
    by_cases q : Fnd T G
    · exact ⟨true, by simp [q]⟩
    · exact ⟨false, by simp [q]⟩
  have KA := fun u (hu : Ext [] w u) => allFound_any a c T G r hr hP u (hT.keep0 hu)
  have KSS := fun g (hg : g < G) u (hu : Ext [] w u) => soundSlots_any a c T G g hP hg u (hT.keep0 hu)
  have hne : T ≠ [] := by rintro rfl; simp at hlen; omega
  obtain ⟨b, o, rfl, hcc⟩ := hT.at_ hne
  clear hcc
  have HT := hid hT
  have HL := hid hlen
  have HS := hid hP
  have HNo := hid hN
  have HRr := hid hr
  have HKS := hid KSS
  have HKA := hid KA
  have HK1 := hid K1
  clear hT hlen hP hN hr KSS KA K1
  go_enter Tryd.func38, Tryd.ntmps38
  go_wp2_with (first | (go_at_call 61; refine met K0 ?_) | (go_at_call 62; refine met K1w ?_))
  clear K0 K1w
  go_loopw [3, 4, 13] (fun p q r wr => ∃ k : Nat, r = .int .i64 k ∧ k ≤ G ∧ p = .int .i64 (nfl T k : Nat) ∧ q = .int .i64 (nus T k : Nat) ∧ (∀ g, g < k → scB (cw T g) = true ∧ ssB T g = true) ∧ Ext [] w wr) (fun _ _ q _ => (G - (intOf q)).toNat)
  case atStart => exact ⟨0, rfl, Nat.zero_le _, rfl, rfl, fun g hg => absurd hg (by omega), Ext.refl _ _⟩
  case round =>
    obtain ⟨k, rfl, hk, rfl, rfl, hall, hX⟩ := hrel
    have HAll := hid hall
    clear hall
    have hnf := nfl_le T k
    have hnu := nus_le T k
    by_cases hkG : k < G
    · have hki : (k : Int) < G := by omega
      obtain ⟨_, _, heq, hc⟩ := (HT.out.keep0 hX).at_ hne
      cases heq
      have cC := hc (3 + 17 * k) (by rw [HL.out]; omega)
      rw [show T.getD (3 + 17 * k) 0 = cw T k from rfl] at cC
      have hcw := HS.out.cw_lt k
      have KC := fun u => controlAt_any k (by omega) u
      have K63 := fun u => soundControl_any (cw T k) hcw u
      have K64 := HKS.out k hkG wr hX
      have K66 := fun u => full_any (cw T k) hcw u
      have K67 := fun u => deleted_any (cw T k) hcw u
      have K65a := fun u => ones_any (fl (cw T k)) (fl_lt256 _) u
      have hor := Nat.or_lt_two_pow (n := 8) (fl_lt256 (cw T k)) (mt_lt256 (cw T k) 254)
      have K65b := fun u => ones_any (fl (cw T k) ||| mt (cw T k) 254) hor u
      have eor := bits_or_u64_nat (fl (cw T k)) (mt (cw T k) 254) (fl_lt _) (mt_lt _ _)
      have hp1 := pc_le (fl (cw T k))
      have hp2 := pc_le (fl (cw T k) ||| mt (cw T k) 254)
      have HN1 := hid (show nfl T (k + 1) = nfl T k + pc (fl (cw T k)) from rfl)
      have HN2 := hid (show nus T (k + 1) = nus T k + pc (fl (cw T k) ||| mt (cw T k) 254) from rfl)
      have HX := hid hX
      clear hX hc
      cases hsc : scB (cw T k) with
      | false =>
        simp only [hsc] at K63
        clear hsc K64 K66 K67 K65a K65b eor hor HN1 HN2 hp1 hp2
        generalize nfl T k = nf at *
        generalize nus T k = nu at *
        generalize cw T k = cx at *
        go_wp2_with (first | (go_at_call 52; refine met (KC _) ?_) | (go_at_call 63; refine met (K63 _) ?_))
        go_ret
        exact ⟨rfl, HX.out⟩
      | true =>
        simp only [hsc] at K63
        cases hss : ssB T k with
        | false =>
          rw [hss] at K64
          clear hsc hss K66 K67 K65a K65b eor hor HN1 HN2 hp1 hp2
          generalize nfl T k = nf at *
          generalize nus T k = nu at *
          generalize cw T k = cx at *
          go_wp2_with (first | (go_at_call 52; refine met (KC _) ?_) | (go_at_call 63; refine met (K63 _) ?_))
          go_at_call 64
          refine K64.mono ?_
          rintro _ w2 ⟨rfl, hX2⟩
          have HX2 := hid (HX.out.trans hX2)
          clear hX2 K64 HX cC
          go_wp2
          go_ret
          exact ⟨rfl, HX2.out⟩
        | true =>
          rw [hss] at K64
          have HAll2 : Hid (∀ g, g < k + 1 → scB (cw T g) = true ∧ ssB T g = true) := fun g hg => by
            by_cases e : g = k
            · subst e; exact ⟨hsc, hss⟩
            · exact HAll.out g (by omega)
          clear hsc hss
          generalize nfl T k = nf at *
          generalize nus T k = nu at *
          generalize pc (fl (cw T k)) = p1 at *
          generalize pc (fl (cw T k) ||| mt (cw T k) 254) = p2 at *
          generalize (fl (cw T k) ||| mt (cw T k) 254) = fo at *
          generalize mt (cw T k) 254 = md at *
          generalize fl (cw T k) = f at *
          generalize cw T k = cx at *
          go_wp2_with (first | (go_at_call 52; refine met (KC _) ?_) | (go_at_call 63; refine met (K63 _) ?_))
          go_at_call 64
          refine K64.mono ?_
          rintro _ w2 ⟨rfl, hX2⟩
          have HX2 := hid (HX.out.trans hX2)
          clear hX2 K64 HX cC
          go_wp2_with (first | (go_at_call 66; refine met (K66 _) ?_) | (go_at_call 67; refine met (K67 _) ?_))
          go_at_call 65
          refine met (K65a _) ?_
          go_wp2_with (first | (go_at_call 66; refine met (K66 _) ?_) | (go_at_call 67; refine met (K67 _) ?_))
          go_at_call 65
          refine met (K65b _) ?_
          go_wp2_with fail
          go_roundw
          case rel => exact ⟨k + 1, by go_num, by omega, by rw [HN1.out]; simp, by rw [HN2.out]; simp, HAll2.out, HX2.out⟩
          case measure => simp [intOf]; omega
    · obtain rfl : k = G := by omega
      obtain ⟨_, _, heq, hc⟩ := (HT.out.keep0 hX).at_ hne
      cases heq
      have c1 := hc 1 (by rw [HL.out]; omega)
      have c2 := hc 2 (by rw [HL.out]; omega)
      have K1w := HK1.out wr hX
      have hT1 := getD_lt64 HS.out.lt 1
      have hT2 := getD_lt64 HS.out.lt 2
      have HNS := hid (fun (q1 : T.getD 1 0 = nfl T k) (q2 : T.getD 2 0 + nus T k = 7 * k) (q3 : r = true) => HNo.out ⟨HS.out, fun g hg => (HAll.out g hg).1, fun g hg => (HAll.out g hg).2, q1, q2, HRr.out.1 q3⟩)
      have KAw := HKA.out wr hX
      have HX := hid hX
      clear hX hc
      generalize T.getD 1 0 = t1 at *
      generalize T.getD 2 0 = t2 at *
      generalize nfl T k = nf at *
      generalize nus T k = nu at *
      by_cases q0 : nu ≤ 7 * k
      · obtain ⟨lf, hlf⟩ : ∃ lf, 7 * k - nu = lf := ⟨_, rfl⟩
        have hlfi : 7 * (k : Int) - (nu : Int) = (lf : Int) := by omega
        by_cases q1 : t1 = nf
        · have q1' : ((t1 : Int) == (nf : Int)) = true := by simp [q1]
          by_cases q2 : t2 = lf
          · have q2' : ((t2 : Int) == (lf : Int)) = true := by simp [q2]
            cases r with
            | false =>
              clear HNS HRr
              go_wp2_with (first | (go_at_call 62; refine met K1w ?_))
              refine KAw.mono ?_
              clear KAw
              rintro _ w2 ⟨rfl, hX2⟩
              have HX2 := hid (HX.out.trans hX2)
              clear hX2
              go_wp2
              go_ret
              exact ⟨rfl, HX2.out⟩
            | true => exact (HNS.out q1 (by omega) rfl).elim
          · have q2' : ((t2 : Int) == (lf : Int)) = false := by simp; omega
            clear HNS HRr KAw
            go_wp2_with (first | (go_at_call 62; refine met K1w ?_))
            go_ret
            exact ⟨rfl, HX.out⟩
        · have q1' : ((t1 : Int) == (nf : Int)) = false := by simp; omega
          clear HNS HRr KAw
          go_wp2_with (first | (go_at_call 62; refine met K1w ?_))
          go_ret
          exact ⟨rfl, HX.out⟩
      · have q0' : ¬ (0 : Int) ≤ 7 * (k : Int) - (nu : Int) := by omega
        clear HNS HRr KAw
        go_wp2_with (first | (go_at_call 62; refine met K1w ?_))
        go_ret
        exact ⟨rfl, HX.out⟩
theorem sound_no (a : Option Addr) (n c : Nat) (T : List Nat) (hn : T.length = n) (hnb : n ≤ 17592186044416) (hlt : ∀ x ∈ T, x < 18446744073709551616) (hno : ∀ G, ¬ Sd T G) (w : World) (hT : Wd w a T) :
    Calls Tryd.prog 38 #[.slice a n c] w (SayPost w (.bool false)) := by
  by_cases h : ∃ G, Shp T G
  · obtain ⟨G, hP⟩ := h
    obtain rfl : n = 3 + 17 * G := by rw [← hn, hP.len]
    exact sound_shp a c T G hP (hno G) w hT
  · have K := shaped_no a n c T hn hnb hlt (fun G hP => h ⟨G, hP⟩) w hT
    clear h hno hn hlt hT
    go_enter Tryd.func38, Tryd.ntmps38
    go_wp2_with fail
    refine met K ?_
    clear K
    go_wp2
    go_ret
    exact ⟨rfl, Ext.refl _ _⟩
end Go.Proofs.YtkknadkcpndnaaaDoor
