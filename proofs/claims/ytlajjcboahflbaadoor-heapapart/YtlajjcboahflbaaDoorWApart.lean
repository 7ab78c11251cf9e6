/-
  The walk through HeapApart; no statement is proved here.
-/
import Derived.Test.YtlajjcboahflbaaDoorApartM
import Derived.Deep.CutRange
namespace Go.Proofs.YtlajjcboahflbaaDoor
open Go.RowKit

set_option maxRecDepth 100000 in
set_option maxHeartbeats 32000000 in
theorem apartWalk (pages : Int) (sa : Option Addr) (c : Nat) (S : List Oq) (w : World) (hG : Gl w) (hS : Sc w sa S) :
    Calls Tryd.prog 3 #[.int .i64 pages, .slice sa S.length c] w (SayPost w (.bool true)) := by
  have K1 := grown_x pages sa c S w hG hS
  have HG := hid hG
  have HP : Hid ((growH (newH (pgsOf pages)) [] S).1.P = pgsOf pages) := by
    show _ = _
    rw [growH_P]; rfl
  have HGP : Hid ((pages < 0 ∨ 1024 < pages → (4 : Int) = pgsOf pages) ∧ (¬ (pages < 0 ∨ 1024 < pages) → pages = (pgsOf pages : Int))) := by
    unfold pgsOf
    refine ⟨fun h => by rw [if_pos h]; rfl, fun h => by rw [if_neg h]; omega⟩
  clear hS hG
  generalize (growH (newH (pgsOf pages)) [] S).1 = H at *
  generalize pgsOf pages = P at *
  generalize S.length = n at *
  go_enter Tryd.func3, Tryd.ntmps3
  go_upto_region 4 with (first | (go_at_call 9; refine K1.mono ?_; clear K1; rintro e w1 ⟨p, cs, va, vn, vc, rfl, hX⟩; have K2 := awake_any w1 (HG.out.keep0 hX.ext); replace hX := hid hX) | (go_at_call 10; refine K2.mono ?_; clear K2; rintro e w2 ⟨rfl, hE2⟩; have hX2 := hid (hX.out.ext0 hE2); clear hE2) | fail "no arm")
  have K3 := hX2.out.whole
  have hok := hX2.out.ok
  clear hX
  go_upto_region 5 with (first | (go_at_call 11; refine K3.mono ?_; clear K3; rintro e w3 ⟨v1, v2, v3, rfl, hw3⟩; replace hw3 := hid hw3) | fail "no arm")
  obtain ⟨o1, o2, o3, _, _, _, hE3⟩ := hw3.out
  obtain ⟨a1, c1, rfl, _⟩ := own_slice o1
  obtain ⟨a2, c2, rfl, _⟩ := own_slice o2
  obtain ⟨a3, c3, rfl, _⟩ := own_slice o3
  have HE := hid (hX2.out.ext.trans hE3)
  have HO1 := hid o1
  have HO2 := hid o2
  have HO3 := hid o3
  have HOK := hid hok
  have l1 := hok.objs
  have l2 : H.sp.length ≤ 1024 := by have := hok.splen; have := hok.P1; omega
  have l3 : (fr H.R).length ≤ 1024 := by have := fr_len H.R; have := hok.inv.len; have := hok.P1; omega
  generalize hn1 : (objs H.sp).length = n1 at *
  generalize hn2 : H.sp.length = n2 at *
  generalize hn3 : (fr H.R).length = n3 at *
  have HN1 := hid hn1
  have HN2 := hid hn2
  have HN3 := hid hn3
  clear o1 o2 o3 hE3 hw3 hX2 hok hn1 hn2 hn3
  go_upto_region 8 with fail
  go_loopw [11] (fun q wr => ∃ i : Nat, q = .int .i64 i ∧ i ≤ n1 ∧ Ext [] w3 wr) (fun q _ => (n1 - (intOf q)).toNat)
  case atStart => exact ⟨0, rfl, Nat.zero_le _, Ext.refl _ _⟩
  case round =>
    obtain ⟨i, rfl, hi, hEr⟩ := hrel
    have HEr := hid hEr
    clear hEr
    by_cases hlt : i < n1
    · obtain ⟨g, c1', hv, t0, t1, _, _⟩ := obl_at (own_keep0 HO1.out HEr.out) (k := i) (by rw [HN1.out]; exact hlt)
      simp only [Value.slice.injEq] at hv
      obtain ⟨rfl, hy1, rfl⟩ := hv
      clear hy1
      have HA := hid (HOK.out.obAt (i := i) (List.getElem?_eq_getElem (by rw [HN1.out]; exact hlt)))
      have HPr : Hid (∀ j : Nat, j + 1 = i → ∃ y : Ob, wr.cell? ⟨g, j * 4, none⟩ = some (.int .i64 y.1) ∧ wr.cell? ⟨g, j * 4 + 1, none⟩ = some (.int .i64 y.2.1) ∧ y.1 + y.2.1 ≤ ((objs H.sp)[i]'(by rw [HN1.out]; exact hlt)).1 ∧ 0 ≤ y.1 ∧ 1 ≤ y.2.1) := fun j hj => by
        have hj1 : j < (objs H.sp).length := by rw [HN1.out]; omega
        obtain ⟨g', c', hv', s0, s1, _, _⟩ := obl_at (own_keep0 HO1.out HEr.out) (k := j) hj1
        simp only [Value.slice.injEq, Option.some.injEq, Addr.mk.injEq] at hv'
        obtain ⟨⟨rfl, _⟩, _⟩ := hv'
        have hA := HOK.out.obAt (List.getElem?_eq_getElem hj1)
        exact ⟨_, s0, s1, HA.out.pr j _ (by omega) (List.getElem?_eq_getElem hj1), hA.lo, hA.s1⟩
      have HT : Hid (∀ u, Ext [] w3 u → u.cell? ⟨g, i * 4, none⟩ = some (.int .i64 ((objs H.sp)[i]'(by rw [HN1.out]; exact hlt)).1) ∧ u.cell? ⟨g, i * 4 + 1, none⟩ = some (.int .i64 ((objs H.sp)[i]'(by rw [HN1.out]; exact hlt)).2.1)) := fun u hu => by
        obtain ⟨g', c', hv', s0, s1, _, _⟩ := obl_at (own_keep0 HO1.out hu) (k := i) (by rw [HN1.out]; exact hlt)
        simp only [Value.slice.injEq, Option.some.injEq, Addr.mk.injEq] at hv'
        obtain ⟨⟨rfl, _⟩, _⟩ := hv'
        exact ⟨s0, s1⟩
      generalize ((objs H.sp)[i]'(by rw [HN1.out]; exact hlt)) = x at *
      obtain ⟨x0, x1, x2⟩ := x
      simp only at t0 t1 HPr HT
      have m8 : x0.tmod 8 = 0 := by
        have h8 : x0 % 8 = 0 := HA.out.m8
        have hl : 0 ≤ x0 := HA.out.lo
        rw [Int.tmod_eq_emod_of_nonneg hl]; exact h8
      have s1 : (1 : Int) ≤ x1 := HA.out.s1
      have lo : (0 : Int) ≤ x0 := HA.out.lo
      have hi0 : x0 + x1 ≤ 262400 := HA.out.hi
      obtain ⟨K0, y, hy, q3, q4, q5⟩ := HA.out.sp
      simp only at q3 q4 q5
      go_upto_region 10 with fail
      go_cut [85] from 40 to 145 (fun q wc => q = .bool false ∧ Ext [] wr wc)
      case first =>
        clear hy q3 q4 q5 HO1 HO2 HO3 HOK HG HP HGP HE HN1 HN2 HN3 HA
        have hm : (!(x0.tmod 8 == 0)) = false := by simp [m8]
        have hs1 : decide (x1 < 1) = false := by simp; omega
        by_cases hpos : 0 < i
        · obtain ⟨j, rfl⟩ : ∃ j, i = j + 1 := ⟨i - 1, by omega⟩
          obtain ⟨z, z0, z1, q6, q7, q8⟩ := HPr.out j rfl
          generalize z.1 = y0 at *
          generalize z.2.1 = y1 at *
          have hgt : decide (((j + 1 : Nat) : Int) > 0) = true := decide_eq_true (by omega)
          have hgi : 0 < ((j + 1 : Nat) : Int) := by omega
          have hsub : ((j + 1 : Nat) : Int) - 1 = (j : Int) := by omega
          have hle : decide (y0 + y1 > x0) = false := by simp; omega
          have hlt2 : (j : Int) < n1 := by omega
          clear HPr hpos hi
          go_quiet (fail)
          go_wp2_with fail
          go_meet
          exact ⟨rfl, Ext.drewN [] _ _⟩
        · have hgt : decide ((i : Int) > 0) = false := by simp; omega
          have hgi : ¬ (0 < (i : Int)) := by omega
          clear lo hi0 hi HPr
          go_quiet (fail)
          go_wp2_with fail
          go_meet
          exact ⟨rfl, Ext.drewN [] _ _⟩
      case rest =>
        obtain ⟨rfl, hEc⟩ := hcut
        replace HEr := hid (HEr.out.trans hEc)
        have HY : Hid (H.sp[K0]? = some y ∧ ((y.st : Int) + 1) * 256 ≤ x0 ∧ x0 + x1 ≤ ((y.st : Int) + 1) * 256 + y.n * 256 ∧ x1 ≤ y.rm) := hid ⟨hy, q3, q4, q5⟩
        have HK0 : Hid (K0 < n2) := by
          have := (List.getElem?_eq_some_iff.1 hy).1
          rw [HN2.out] at this; exact this
        clear hEc t0 t1 hy q3 q4 q5 HPr m8
        go_upto_region 14 with fail
        go_loopw [12, 13] (fun b q wq => ∃ (k : Nat) (bb : Bool), q = .int .i64 k ∧ b = .bool bb ∧ k ≤ n2 ∧ (K0 < k → bb = true) ∧ Ext [] w3 wq) (fun _ q _ => (n2 - (intOf q)).toNat)
        case atStart => exact ⟨0, false, rfl, rfl, Nat.zero_le _, fun h => by omega, HEr.out⟩
        case round =>
          obtain ⟨k, bb, rfl, rfl, hk, hbb, hE2⟩ := hrel
          have HE2 := hid hE2
          have HBB := hid hbb
          clear hE2 hbb
          by_cases hlk : k < n2
          · obtain ⟨t0, t1⟩ := HT.out _ HE2.out
            obtain ⟨g2, c2', hv, u0, u1, u2, _, _⟩ := spl_at (own_keep0 HO2.out HE2.out) (k := k) (by rw [HN2.out]; exact hlk)
            simp only [Value.slice.injEq] at hv
            obtain ⟨rfl, hy2, rfl⟩ := hv
            clear hy2
            have HKK : Hid (k = K0 → (((H.sp[k]'(by rw [HN2.out]; exact hlk)).st : Int) + 1) * 256 ≤ x0 ∧ x0 + x1 ≤ (((H.sp[k]'(by rw [HN2.out]; exact hlk)).st : Int) + 1) * 256 + (H.sp[k]'(by rw [HN2.out]; exact hlk)).n * 256 ∧ x1 ≤ (H.sp[k]'(by rw [HN2.out]; exact hlk)).rm) := fun e => by
              subst e
              have h1 := HY.out.1
              rw [List.getElem?_eq_getElem (by rw [HN2.out]; exact hlk)] at h1
              simp only [Option.some.injEq] at h1
              rw [h1]; exact HY.out.2
            have hb1 : ((H.sp[k]'(by rw [HN2.out]; exact hlk)).st : Int) + (H.sp[k]'(by rw [HN2.out]; exact hlk)).n ≤ 1024 := by
              have h1 := HOK.out.le (List.getElem_mem (by rw [HN2.out]; exact hlk))
              have h2 := HOK.out.P1
              omega
            have hb2 : (0 : Int) ≤ ((H.sp[k]'(by rw [HN2.out]; exact hlk)).st : Int) := by omega
            have hb3 : (0 : Int) ≤ ((H.sp[k]'(by rw [HN2.out]; exact hlk)).n : Int) := by omega
            generalize ((H.sp[k]'(by rw [HN2.out]; exact hlk)).st : Int) = y0 at *
            generalize ((H.sp[k]'(by rw [HN2.out]; exact hlk)).n : Int) = y1 at *
            generalize ((H.sp[k]'(by rw [HN2.out]; exact hlk)).rm : Int) = y2 at *
            go_upto_region 17 with fail
            clear HO1 HO2 HO3 HOK HG HP HGP HE HN1 HN3 HA HT HY
            cases bb with
            | true =>
              go_quiet (fail)
              go_wp2_with fail
              go_roundw
              case rel => exact ⟨k + 1, true, by go_num, rfl, by omega, fun _ => rfl, HE2.out.trans (Ext.drewN [] _ _)⟩
              case measure => simp [intOf]; omega
            | false =>
              have HNB : Hid (¬ K0 < k) := fun h => by cases HBB.out h
              by_cases d1 : (y0 + 1) * 256 ≤ x0
              · have e1 : decide (x0 ≥ (y0 + 1) * 256) = true := decide_eq_true d1
                by_cases d2 : x0 + x1 ≤ (y0 + 1) * 256 + y1 * 256
                · have e2 : decide (x0 + x1 ≤ (y0 + 1) * 256 + y1 * 256) = true := decide_eq_true d2
                  by_cases d3 : x1 ≤ y2
                  · have e3 : decide (x1 ≤ y2) = true := decide_eq_true d3
                    go_quiet (fail)
                    go_wp2_with fail
                    go_roundw
                    case rel => exact ⟨k + 1, true, by go_num, rfl, by omega, fun _ => rfl, HE2.out.trans (Ext.drewN [] _ _)⟩
                    case measure => simp [intOf]; omega
                  · have e3 : decide (x1 ≤ y2) = false := decide_eq_false d3
                    have HNK : Hid (k ≠ K0) := fun h => d3 (HKK.out h).2.2
                    go_quiet (fail)
                    go_wp2_with fail
                    go_roundw
                    case rel => exact ⟨k + 1, false, by go_num, rfl, by omega, fun h => (HNB.out (by have := HNK.out; omega)).elim, HE2.out.trans (Ext.drewN [] _ _)⟩
                    case measure => simp [intOf]; omega
                · have e2 : decide (x0 + x1 ≤ (y0 + 1) * 256 + y1 * 256) = false := decide_eq_false d2
                  have HNK : Hid (k ≠ K0) := fun h => d2 (HKK.out h).2.1
                  go_quiet (fail)
                  go_wp2_with fail
                  go_roundw
                  case rel => exact ⟨k + 1, false, by go_num, rfl, by omega, fun h => (HNB.out (by have := HNK.out; omega)).elim, HE2.out.trans (Ext.drewN [] _ _)⟩
                  case measure => simp [intOf]; omega
              · have e1 : decide (x0 ≥ (y0 + 1) * 256) = false := decide_eq_false d1
                have HNK : Hid (k ≠ K0) := fun h => d1 (HKK.out h).1
                go_quiet (fail)
                go_wp2_with fail
                go_roundw
                case rel => exact ⟨k + 1, false, by go_num, rfl, by omega, fun h => (HNB.out (by have := HNK.out; omega)).elim, HE2.out.trans (Ext.drewN [] _ _)⟩
                case measure => simp [intOf]; omega
          · obtain rfl : k = n2 := by omega
            obtain rfl : bb = true := HBB.out HK0.out
            go_wp2_with fail
            go_roundw
            case rel => exact ⟨i + 1, by go_num, by omega, HE2.out⟩
            case measure => simp [intOf]; omega
    · obtain rfl : i = n1 := by omega
      have hcov := HOK.out.cover
      have hcnt := objs_count H.sp
      have hPP := HOK.out.P1
      rw [HN1.out] at hcnt
      rw [HP.out] at hcov hPP
      have HCov := hid hcov
      have HCnt := hid hcnt
      have hsN : sumN H.sp ≤ 1024 := by omega
      have hsU : sumU H.sp ≤ 32768 := by omega
      have hsR : sumN H.sp + sumR (fr H.R) ≤ 1024 := by omega
      clear hcov hcnt
      go_upto_region 22 with fail
      go_loopw [15, 16, 17] (fun q15 q16 q wq => ∃ k : Nat, q = .int .i64 k ∧ k ≤ n2 ∧ q15 = .int .i64 (sumN (H.sp.take k) : Nat) ∧ q16 = .int .i64 (sumU (H.sp.take k) : Nat) ∧ Ext [] w3 wq) (fun _ _ q _ => (n2 - (intOf q)).toNat)
      case atStart => exact ⟨0, rfl, Nat.zero_le _, rfl, rfl, HEr.out⟩
      case round =>
        obtain ⟨k, rfl, hk, rfl, rfl, hE2⟩ := hrel
        have HE2 := hid hE2
        clear hE2
        by_cases hlk : k < n2
        · obtain ⟨g2, c2', hv, _, u1, _, u3, u4⟩ := spl_at (own_keep0 HO2.out HE2.out) (k := k) (by rw [HN2.out]; exact hlk)
          simp only [Value.slice.injEq] at hv
          obtain ⟨rfl, hy2, rfl⟩ := hv
          clear hy2
          have hkl : k < H.sp.length := by rw [HN2.out]; exact hlk
          have hS1 := sumN_snoc hkl
          have hS2 := sumU_snoc hkl
          have hS3 := sumN_le H.sp (k + 1)
          have hS4 := sumU_le H.sp (k + 1)
          have hus1 := (HOK.out.ok _ (List.getElem_mem hkl)).us
          have hus2 := us_le (H.sp[k]'hkl).S
          have HS1 : Hid ((sumN (H.sp.take (k + 1)) : Int) = sumN (H.sp.take k) + (H.sp[k]'hkl).n) := by show _ = _; omega
          have HS2 : Hid ((sumU (H.sp.take (k + 1)) : Int) = sumU (H.sp.take k) + us (H.sp[k]'hkl).S) := by show _ = _; omega
          have hbn : ((sumN (H.sp.take k) : Nat) : Int) + (H.sp[k]'hkl).n ≤ 1024 := by omega
          have hbu : ((sumU (H.sp.take k) : Nat) : Int) + us (H.sp[k]'hkl).S ≤ 32768 := by omega
          have hb0 : (0 : Int) ≤ ((sumN (H.sp.take k) : Nat) : Int) := by omega
          have hb1 : (0 : Int) ≤ ((sumU (H.sp.take k) : Nat) : Int) := by omega
          have hb2 : (0 : Int) ≤ ((H.sp[k]'hkl).n : Int) := by omega
          have e1 : decide (((us (H.sp[k]'hkl).S : Nat) : Int) < 1) = false := decide_eq_false (by omega)
          have e2 : decide (((us (H.sp[k]'hkl).S : Nat) : Int) > ((H.sp[k]'hkl).S.length : Nat)) = false := decide_eq_false (by omega)
          have e3 : (1 : Int) ≤ ((us (H.sp[k]'hkl).S : Nat) : Int) := by omega
          have e4 : ((us (H.sp[k]'hkl).S : Nat) : Int) ≤ ((H.sp[k]'hkl).S.length : Nat) := by omega
          clear hS1 hS2 hS3 hS4 hus1 hus2
          generalize ((H.sp[k]'hkl).n : Int) = y1 at *
          generalize ((us (H.sp[k]'hkl).S : Nat) : Int) = y4 at *
          generalize (((H.sp[k]'hkl).S.length : Nat) : Int) = y3 at *
          generalize ((sumN (H.sp.take k) : Nat) : Int) = s1 at *
          generalize ((sumU (H.sp.take k) : Nat) : Int) = s2 at *
          go_upto_region 26 with fail
          go_quiet (fail)
          go_wp2_with fail
          go_roundw
          case rel => exact ⟨k + 1, by go_num, by omega, by rw [HS1.out], by rw [HS2.out], HE2.out.trans (Ext.drewN [] _ _)⟩
          case measure => simp [intOf]; omega
        · obtain rfl : k = n2 := by omega
          have HTN : Hid ((sumN (H.sp.take k) : Int) = sumN H.sp ∧ (sumU (H.sp.take k) : Int) = i) := by
            have : H.sp.take k = H.sp := List.take_of_length_le (by rw [HN2.out]; exact Nat.le_refl _)
            rw [this]; exact ⟨rfl, by have := HCnt.out; omega⟩
          rw [HTN.out.1, HTN.out.2]
          go_upto_region 29 with fail
          go_loopw [15, 18] (fun q15 q wq => ∃ m : Nat, q = .int .i64 m ∧ m ≤ n3 ∧ q15 = .int .i64 ((sumN H.sp + sumR ((fr H.R).take m) : Nat) : Int) ∧ Ext [] w3 wq) (fun _ q _ => (n3 - (intOf q)).toNat)
          case atStart => exact ⟨0, rfl, Nat.zero_le _, rfl, HE2.out⟩
          case round =>
            obtain ⟨m, rfl, hm, rfl, hE5⟩ := hrel
            have HE5 := hid hE5
            clear hE5
            by_cases hlm : m < n3
            · have hml : m < (fr H.R).length := by rw [HN3.out]; exact hlm
              obtain ⟨g3, c3', hv, _, u1, _⟩ := lst_at (HO3.out.keep0 HE5.out) (k := m) hml
              simp only [Value.slice.injEq] at hv
              obtain ⟨rfl, hy3, rfl⟩ := hv
              clear hy3
              have hS1 := sumR_snoc hml
              have hS3 := sumR_le (fr H.R) (m + 1)
              have HS1 : Hid (((sumN H.sp + sumR ((fr H.R).take (m + 1)) : Nat) : Int) = ((sumN H.sp + sumR ((fr H.R).take m) : Nat) : Int) + ((fr H.R)[m]'hml).n) := by show _ = _; omega
              have hbn : ((sumN H.sp + sumR ((fr H.R).take m) : Nat) : Int) + ((fr H.R)[m]'hml).n ≤ 1024 := by omega
              have hb0 : (0 : Int) ≤ ((sumN H.sp + sumR ((fr H.R).take m) : Nat) : Int) := by omega
              have hb2 : (0 : Int) ≤ (((fr H.R)[m]'hml).n : Int) := by omega
              clear hS1 hS3
              generalize (((fr H.R)[m]'hml).n : Int) = y1 at *
              generalize ((sumN H.sp + sumR ((fr H.R).take m) : Nat) : Int) = s1 at *
              go_wp2_with fail
              go_roundw
              case rel => exact ⟨m + 1, by go_num, by omega, by rw [HS1.out], HE5.out⟩
              case measure => simp [intOf]; omega
            · obtain rfl : m = n3 := by omega
              have HTM : Hid (((sumN H.sp + sumR ((fr H.R).take m) : Nat) : Int) = P) := by
                have : (fr H.R).take m = fr H.R := List.take_of_length_le (by rw [HN3.out]; exact Nat.le_refl _)
                rw [this, HCov.out]; rfl
              rw [HTM.out]
              have HFin : Hid (Ext [] w wr) := by first | exact HE.out.trans HE5.out
              have p1 := HGP.out.1
              have p2 := HGP.out.2
              clear HO1 HO2 HO3 HOK HCov HCnt HTN HTM HE2 HE5 HEr HN1 HN2 HN3 HGP
              by_cases g1 : pages < 0
              · have hp := p1 (.inl g1)
                clear p1 p2
                go_wp2_with fail
                go_ret
                exact ⟨by simp [hp], HFin.out⟩
              · by_cases g2 : 1024 < pages
                · have hp := p1 (.inr g2)
                  clear p1 p2
                  go_wp2_with fail
                  go_ret
                  exact ⟨by have := hp; simp, HFin.out⟩
                · have hp := p2 (by omega)
                  clear p1 p2
                  go_wp2_with fail
                  go_ret
                  exact ⟨by have := hp; simp, HFin.out⟩

end Go.Proofs.YtlajjcboahflbaaDoor
