/-
  allFound: each entry is found; no statement is proved here.
-/
import Derived.Test.YtkknadkcpndnaaaDoorHelp
import Derived.Deep.OwnRows
namespace Go.Proofs.YtkknadkcpndnaaaDoor
open Go.RowKit Go.Shelf
open Pr (Gp GpI sq pl)
attribute [local go_sem] Oper.semAt_some run_store_func

theorem bit_intF (f i : Nat) (hf : f < 18446744073709551616) : bits BinOp.and IntKind.u64 ((f : Int) / 2 ^ i) 1 = if f.testBit i then 1 else 0 := by
  have e1 : (f : Int) / 2 ^ i = ((f / 2 ^ i : Nat) : Int) := by norm_cast
  have h1 : f / 2 ^ i < 18446744073709551616 := Nat.lt_of_le_of_lt (Nat.div_le_self _ _) hf
  rw [e1, show (1 : Int) = ((1 : Nat) : Int) from rfl, bits_and_u64_nat _ 1 h1 (by omega), Nat.and_one_is_mod, Nat.testBit_eq_decide_div_mod_eq]
  by_cases q : f / 2 ^ i % 2 = 1
  · simp [q]
  · have : f / 2 ^ i % 2 = 0 := by omega
    simp [this]
/-- Each entry is found. -/
def Fnd (T : List Nat) (G : Nat) : Prop := ∀ own, own < G → ∀ i, i < 8 → (fl (cw T own)).testBit i = true → ∃ k, k < G ∧ pl (hsw T own i / 128) G k = own ∧ ∀ n, n < k → hasE T (pl (hsw T own i / 128) G n) = false
def bls (T : List Nat) (G k : Nat) : List Value := (List.range G).map fun g => .bool (decide (g < k) && hasE T g)
theorem bls_at (T : List Nat) {G k j : Nat} (h : j < G) : (bls T G k)[j]? = some (.bool (decide (j < k) && hasE T j)) := by simp [bls, h]
/-- The row of truths at g0. -/
def Bw (w : World) (g0 : Nat) (T : List Nat) (G k : Nat) : Prop := w.heap[g0]? = some (.cells (bls T G k).toArray 4 (0, 0))
theorem bls_set (T : List Nat) {G k : Nat} (hk : k < G) : (bls T G k).set k (.bool (hasE T k)) = bls T G (k + 1) := by
  apply List.ext_getElem?
  intro j
  rw [List.getElem?_set]
  by_cases hj : j < G
  · rw [bls_at T hj, bls_at T hj]
    by_cases e : k = j
    · subst e; simp [bls, hk]
    · rw [if_neg e]
      have : decide (j < k) = decide (j < k + 1) := by rw [decide_eq_decide]; omega
      rw [this]
  · have e1 : (bls T G k)[j]? = none := by simp [bls]; omega
    have e2 : (bls T G (k + 1))[j]? = none := by simp [bls]; omega
    rw [e1, e2, if_neg (by omega)]

set_option maxRecDepth 100000 in
set_option maxHeartbeats 2000000 in
theorem allFound_true (a : Option Addr) (c : Nat) (T : List Nat) (G : Nat) (hS : Shp T G) (hF : Fnd T G) (w : World) (hT : Wd w a T) :
    Calls Tryd.prog 68 #[.slice a (3 + 17 * G) c] w (SayPost w (.bool true)) := by
  have hG := hS.gp.le
  have hG0 := hS.gp.pos
  have hlen := hS.len
  have K1 := fun u (hu : Ext [] w u) => groupsOf_any a (3 + 17 * G) c T u (hT.keep0 hu) hlen (by omega) (by rw [hS.g0]; exact hG)
  rw [hS.g0] at K1
  have hmk := run_make_row' (P := Tryd.prog) 125 4 (.bool false) 1 Tryd.underlying125 info4 rfl .i64 .i64 G (by omega) (by omega) w
  have hB0 : Bw (w.alloc (.cells (madeCells #[.bool false] G) 4)) w.heap.size T G 0 := by
    have e : madeCells #[.bool false] G = (bls T G 0).toArray := by
      apply Array.toList_inj.1
      rw [toList_madeCells_one]
      apply List.ext_getElem?
      intro j
      by_cases hj : j < G
      · rw [List.getElem?_replicate, if_pos hj, bls_at T hj]; simp
      · rw [List.getElem?_replicate, if_neg hj]; simp only [bls]; rw [List.getElem?_map, List.getElem?_eq_none (by simp; omega)]; rfl
    unfold Bw
    rw [← e]
    exact heap_alloc_new w _
  have hE0 := Ext.alloc [] w (.cells (madeCells #[.bool false] G) 4)
  obtain ⟨g0, hg0⟩ : ∃ g0, w.heap.size = g0 := ⟨_, rfl⟩
  rw [hg0] at hmk hB0
  obtain ⟨W0, hW0⟩ : ∃ W0, w.alloc (.cells (madeCells #[.bool false] G) 4) = W0 := ⟨_, rfl⟩
  rw [hW0] at hmk hB0 hE0
  have HB0 := hid hB0
  have HE0 := hid hE0
  have HT := hid hT
  have HL := hid hlen
  have HS := hid hS
  have HF := hid hF
  have hne : T ≠ [] := by rintro rfl; simp at hlen; omega
  obtain ⟨b, o, rfl, hcc⟩ := hT.at_ hne
  clear hcc
  have K1w := K1 w (Ext.refl _ _)
  clear hB0 hE0 hT hlen hS hF hW0 K1
  go_enter Tryd.func68, Tryd.ntmps68
  go_wp2_with (first | (go_at_call 62; refine met K1w ?_))
  clear hmk K1w
  go_loopw [19] (fun q wr => ∃ k : Nat, q = .int .i64 k ∧ k ≤ G ∧ Bw wr g0 T G k ∧ Ext [] w wr) (fun q _ => (G - (intOf q)).toNat)
  case atStart => exact ⟨0, rfl, Nat.zero_le _, HB0.out, HE0.out⟩
  case round =>
    clear HB0 HE0
    obtain ⟨k, rfl, hk, hB, hE⟩ := hrel
    by_cases hkG : k < G
    · have hki : (k : Int) < G := by omega
      obtain ⟨_, _, heq, hc⟩ := (HT.out.keep0 hE).at_ hne
      cases heq
      have cC := hc (3 + 17 * k) (by rw [HL.out]; omega)
      rw [show T.getD (3 + 17 * k) 0 = cw T k from rfl] at cC
      have hcw := HS.out.cw_lt k
      have KC := fun u => controlAt_any k (by omega) u
      have KE := fun u => empty_any (cw T k) hcw u
      have cB : wr.cell? ⟨g0, k, none⟩ = some (.bool (decide (k < k) && hasE T k)) := by rw [cell_of_row _ _ _ _ _ _ hB]; rw [List.getElem?_toArray, bls_at T hkG]
      have fB := frozen_of_row wr g0 k _ 4 hB
      have hbe : ((mt (cw T k) 128 : Int) != 0) = hasE T k := by
        unfold hasE
        by_cases q : mt (cw T k) 128 = 0
        · simp [q]
        · have : ((mt (cw T k) 128 : Int) != 0) = true := by simpa using q
          rw [this]; simp [q]
      have HB' : Hid (Bw (wr.setCell ⟨g0, k, none⟩ (.bool (hasE T k))) g0 T G (k + 1)) := by
        show _ = _
        rw [heap_setCell_same wr g0 k _ 4 _ hB]
        rw [← bls_set T hkG]
        simp
      have HE' := hid (hE.on (Ext.setCell [g0] wr ⟨g0, k, none⟩ (.bool (hasE T k)) (by simp)) (by simp; omega))
      generalize (decide (k < k) && hasE T k) = ob at *
      generalize mt (cw T k) 128 = me at *
      generalize cw T k = cx at *
      generalize hasE T k = he at *
      clear hB hE hc
      go_wp2_with (first | (go_at_call 52; refine met (KC _) ?_) | (go_at_call 73; refine met (KE _) ?_))
      go_roundw
      case rel => exact ⟨k + 1, by go_num, by omega, HB'.out, HE'.out⟩
      case measure => simp [intOf]; omega
    · obtain rfl : k = G := by omega
      have HB := hid hB
      have HE := hid hE
      clear hB hE
      go_wp2_with fail
      obtain ⟨V, hV⟩ : ∃ V, V = wr := ⟨_, rfl⟩
      rw [← hV] at HB HE ⊢
      clear hV
      go_loopw [34] (fun q wr => ∃ m : Nat, q = .int .i64 m ∧ m ≤ k ∧ Ext [] V wr) (fun q _ => (k - (intOf q)).toNat)
      case atStart => exact ⟨0, rfl, Nat.zero_le _, Ext.refl _ _⟩
      case round =>
        obtain ⟨m, rfl, hm, hX⟩ := hrel
        by_cases hmk2 : m < k
        · have hmi : (m : Int) < k := by omega
          obtain ⟨_, _, heq, hc⟩ := (HT.out.keep0 (HE.out.trans hX)).at_ hne
          cases heq
          have cC := hc (3 + 17 * m) (by rw [HL.out]; omega)
          rw [show T.getD (3 + 17 * m) 0 = cw T m from rfl] at cC
          have hcw := HS.out.cw_lt m
          have KC := fun u => controlAt_any m (by omega) u
          have KF := fun u => full_any (cw T m) hcw u
          have HFm := hid (HF.out m hmk2)
          have hfl := fl_lt (cw T m)
          generalize fl (cw T m) = f at *
          generalize cw T m = cx at *
          have HX := hid hX
          clear hX hc
          go_wp2_with fail
          go_step3
          go_wp2_with (first | (go_at_call 52; refine met (KC _) ?_) | (go_at_call 66; refine met (KF _) ?_))
          go_step3
          go_wp2_with fail
          clear cC KC KF
          obtain ⟨V2, hV2⟩ : ∃ V2, V2 = wr := ⟨_, rfl⟩
          rw [← hV2] at HX ⊢
          clear hV2
          go_loopw [43] (fun q wr => ∃ i : Nat, q = .int .i64 i ∧ i ≤ 8 ∧ Ext [] V2 wr) (fun q _ => (8 - (intOf q)).toNat)
          case atStart => exact ⟨0, rfl, Nat.zero_le _, Ext.refl _ _⟩
          case round =>
            obtain ⟨i, rfl, hi8, hX2⟩ := hrel
            by_cases hi : i < 8
            · have hii : (i : Int) < 8 := by omega
              have hbit := bit_intF f i hfl
              have HX2 := hid hX2
              cases hf : f.testBit i with
              | false =>
                rw [hf] at hbit
                simp only [Bool.false_eq_true, if_false] at hbit
                clear hX2
                go_wp2_with fail
                go_roundw
                case rel => exact ⟨i + 1, by go_num, by omega, HX2.out⟩
                case measure => simp [intOf]; omega
              | true =>
                rw [hf] at hbit
                simp only [if_true] at hbit
                obtain ⟨n, hn, hpl, hno⟩ := HFm.out i hi hf
                obtain ⟨_, _, heq, hc⟩ := (HT.out.keep0 (HE.out.trans (HX.out.trans hX2))).at_ hne
                cases heq
                have cH := hc (3 + 17 * m + 1 + 2 * i) (by rw [HL.out]; omega)
                rw [show T.getD (3 + 17 * m + 1 + 2 * i) 0 = hsw T m i from rfl] at cH
                have hhs := HS.out.hs_lt m i
                have KH := fun u => hashAt_any m i (by omega) (by omega) u
                have KS := fun u => split_any (hsw T m i) hhs u
                have hgp := HS.out.gp
                have KA := fun j (hj : j < k) u => Pr.at_ok (hsw T m i / 128) k j hgp hj u
                have HPl := hid hpl
                have HNo := hid hno
                have HInj := hid (fun j (hj : j < k) e => Pr.pl_inj (h := hsw T m i / 128) (i := j) (j := n) hgp hj hn e)
                have HLt := hid (fun j => Pr.pl_lt (hsw T m i / 128) hgp.pos j)
                have hm128 : hsw T m i % 128 < 128 := Nat.mod_lt _ (by omega)
                clear hX2 hc hpl hno hgp
                generalize hsw T m i / 128 = h1 at *
                generalize hsw T m i % 128 = h2 at *
                generalize hsw T m i = hv at *
                go_wp2_with (first | (go_at_call 77; refine met (KH _) ?_) | (go_at_call 69; refine met (KS _) ?_))
                clear cH KH KS
                obtain ⟨V3, hV3⟩ : ∃ V3, V3 = wr := ⟨_, rfl⟩
                rw [← hV3] at HX2 ⊢
                clear hV3
                go_loopw [62] (fun q wr => ∃ j : Nat, q = .int .i64 j ∧ j ≤ n ∧ Ext [] V3 wr) (fun q _ => (k - (intOf q)).toNat)
                case atStart => exact ⟨0, rfl, Nat.zero_le _, Ext.refl _ _⟩
                case round =>
                  obtain ⟨j, rfl, hj, hX3⟩ := hrel
                  have hjk : j < k := by omega
                  have hji : (j : Int) < k := by omega
                  have KA' := KA j hjk
                  have hplt := HLt.out j
                  have HX3 := hid hX3
                  by_cases hjn : j = n
                  · subst hjn
                    rw [HPl.out] at KA' hplt
                    clear KA hX3
                    go_wp2_with (first | (go_at_call 80; refine met (KA' _) ?_))
                    go_roundw
                    case rel => exact ⟨i + 1, by go_num, by omega, HX2.out.trans HX3.out⟩
                    case measure => simp [intOf]; omega
                  · have hne2 : pl h1 k j ≠ m := fun e => hjn (HInj.out j hjk (by rw [HPl.out]; exact e))
                    have hno := HNo.out j (by omega)
                    have hB3 : Bw wr g0 T k k := (HX.out.trans (HX2.out.trans hX3)).keep HB.out (by simp)
                    have cB : wr.cell? ⟨g0, pl h1 k j, none⟩ = some (.bool false) := by
                      rw [cell_of_row _ _ _ _ _ _ hB3, List.getElem?_toArray, bls_at T hplt, hno]
                      simp
                    have hneb : ((pl h1 k j : Int) == (m : Int)) = false := by simp; omega
                    clear KA hX3 hno hB3
                    generalize pl h1 k j = p at *
                    go_wp2_with (first | (go_at_call 80; refine met (KA' _) ?_))
                    go_roundw
                    case rel => exact ⟨j + 1, by go_num, by omega, HX3.out⟩
                    case measure => simp [intOf]; omega
            · obtain rfl : i = 8 := by omega
              have HX2 := hid hX2
              clear hX2
              go_wp2_with fail
              apply_assumption
              go_wp2_with fail
              go_roundw
              case rel => exact ⟨m + 1, by go_num, by omega, HX.out.trans HX2.out⟩
              case measure => simp [intOf]; omega
        · obtain rfl : m = k := by omega
          have HX := hid hX
          clear hX
          go_wp2
          go_ret
          exact ⟨rfl, HE.out.trans HX.out⟩
end Go.Proofs.YtkknadkcpndnaaaDoor
