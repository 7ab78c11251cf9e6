/-
  What the document's answer by definition finds of a type: its width, whether it can be compared, its pointers; no statement is proved here.
-/
import Derived.Test.YtfabhhmeanpmhaaDoorPoint
import Derived.Test.YtfabhhmeanpmhaaDoorParts
namespace Go.Proofs.YtfabhhmeanpmhaaDoor
open Go.RowKit

theorem plain_kind {ts : List Ty} {i : Nat} (h : Formed ts i) (hp : parts (tyAt ts i) = []) : ¬ ((tyAt ts i).kind = 8 ∨ (tyAt ts i).kind = 9) := fun hk => h.ne hk hp
theorem made_kind {t : Ty} (hp : parts t ≠ []) : t.kind = 8 ∨ t.kind = 9 := by
  by_cases a : t.kind = 8
  · exact .inl a
  · by_cases b : t.kind = 9
    · exact .inr b
    · exact absurd (by unfold parts; rw [if_neg a, if_neg b]) hp
theorem made_of {ts : List Ty} {i : Nat} (h : Formed ts i) (hi : i < ts.length) (hp : parts (tyAt ts i) ≠ []) : M ts i = ⟨sumWidth (ms ts) (parts (tyAt ts i)), sumWords (ms ts) (parts (tyAt ts i)), allCmp (ms ts) (parts (tyAt ts i)), allPtrs (ms ts) (parts (tyAt ts i))⟩ := by
  rw [h.eq hi]
  have h8 := made_kind hp
  unfold meas
  rw [if_neg (by omega), if_neg (by omega), if_neg (by omega), if_pos h8]
theorem plain_wide {ts : List Ty} {i : Nat} (h : Formed ts i) (hi : i < ts.length) (hp : parts (tyAt ts i) = []) : (M ts i).width = 1 := by
  rw [h.eq hi]
  unfold meas
  have h8 := plain_kind h hp
  rw [if_neg h8]
  split
  · rfl
  · split
    · rfl
    · split
      · rfl
      · split <;> rfl

/-- Bounds of a type whose earlier ones are in order. -/
theorem ok_fit {ts : List Ty} {i : Nat} (hi : i < ts.length) (h : ∀ j, j ≤ i → OkAt ts j) : Fit (M ts i) ∧ (M ts i).width ≤ 16 :=
  ⟨fit_of ts (i + 1) i (by omega) hi (fun j hj => (h j hj).1), (h i (Nat.le_refl _)).2⟩

set_option maxRecDepth 100000 in
set_option maxHeartbeats 1000000 in
theorem widthOf_any (ts : List Ty) (a : Option Addr) (n c : Nat) (hn : ts.length = n) : ∀ (N i : Nat), i < N → i < n → (∀ j, j < i → OkAt ts j) → Formed ts i → ∀ w, Tab w a ts →
    Calls Tryd.prog 53 #[.slice a n c, .int .i64 i] w (SayPost w (.int .i64 (M ts i).width))
  | 0, _, h, _, _, _, _, _ => by omega
  | N + 1, i, hiN, hi, hok, hfm, w, hT => by
    have HIH := hid (widthOf_any ts a n c hn N)
    obtain ⟨b, o, rfl, hta⟩ := hT.addr (by omega)
    obtain ⟨fa, fc, htt⟩ := hta i (by omega)
    obtain ⟨d0, d1, d2, d3, d4, hfo⟩ := htt
    have KP := parts_any (tyAt ts i) fa fc w hfo (fun h => by have := hfm.2.2.2.2.1 h; omega)
    unfold tyVal at KP
    have hl := hT.len
    rw [hn] at hl
    have HT := hid hT
    have HOK := hid hok
    have HFm := hid hfm
    have HBW := hid hfm.below
    have hlp := hfm.length_parts
    have HPW := hid (plain_wide hfm (by omega))
    have HMM := hid (made_of hfm (by omega))
    have HN := hid hn
    clear hta hfo hT hok hfm hn
    go_enter Tryd.func53, Tryd.ntmps53
    go_wp2_with fail
    refine KP.mono ?_
    rintro e w1 ⟨qa, qc, rfl, hO1, hE1⟩
    have HQ := hid (own_vs hO1)
    have HE1 := hid hE1
    clear KP hO1 hE1 d0 d1 d2 d3 d4
    generalize parts (tyAt ts i) = ps at *
    by_cases hps : ps = []
    · have HW := hid (HPW.out hps)
      subst hps
      clear HPW HMM
      go_wp2_with fail
      go_ret
      exact ⟨ret_int HW.out.symm, HE1.out⟩
    · have hme := HMM.out hps
      have HRE : Hid ((M ts i).width = sumWidth (ms ts) ps) := by show _ = _; rw [hme]
      have hb0 : ((ps.length : Int) == 0) = false := by have := List.length_pos_iff.2 hps; simp; omega
      obtain ⟨pb, po, rfl, hpc⟩ := Is.at_ (show Is w1 qa ps from HQ.out) hps
      have HPC := hid hpc
      clear hpc hps hme HQ HPW HMM
      go_wp2_with fail
      go_loopw [6, 7] (fun u0 u wr => ∃ k : Nat, u = .int .i64 k ∧ k ≤ ps.length ∧ u0 = .int .i64 (sumWidth (ms ts) (ps.take k)) ∧ Ext [] w1 wr) (fun _ u _ => (ps.length - (intOf u)).toNat)
      case atStart => exact ⟨0, rfl, Nat.zero_le _, rfl, Ext.refl _ _⟩
      case round =>
        obtain ⟨k, rfl, hkl, rfl, hEk⟩ := hrel
        have HEk := hid hEk
        clear hEk
        by_cases hkm : k < ps.length
        · have hck := HEk.out.cell (HPC.out k hkm) (by simp)
          have hmem : ps.getD k 0 ∈ ps := by simp [List.getD, hkm]
          obtain ⟨p0, p1, _⟩ := HBW.out _ hmem
          have HSW := hid (sumWidth_snoc (ms ts) ps k hkm)
          have hbd := sum_bd (E := ms ts) (k := 16) (l := ps.take k) (fun p hp => by
            obtain ⟨q0, q1, _⟩ := HBW.out p (List.mem_of_mem_take hp)
            obtain ⟨q, rfl⟩ : ∃ q : Nat, p = q := ⟨p.toNat, by omega⟩
            obtain ⟨hf, h16⟩ := ok_fit (ts := ts) (i := q) (by have := HN.out; omega) (fun j hj => HOK.out j (by omega))
            have := hf.w0; have := hf.d0; have := hf.dw
            show 0 ≤ (M ts q).width ∧ (M ts q).width ≤ 16 ∧ 0 ≤ (M ts q).words ∧ (M ts q).words ≤ 2 * (M ts q).width
            omega)
          have hkl2 : (ps.take k).length ≤ 16 := by rw [List.length_take]; omega
          generalize ps.getD k 0 = x at *
          obtain ⟨q, rfl⟩ : ∃ q : Nat, x = q := ⟨x.toNat, by omega⟩
          obtain ⟨hf, h16⟩ := ok_fit (ts := ts) (i := q) (by have := HN.out; omega) (fun j hj => HOK.out j (by omega))
          have hf0 := hf.w0
          have K := HIH.out q (by omega) (by omega) (fun j hj => HOK.out j (by omega)) (HOK.out q (by omega)).1 wr ((HT.out.keep0 HE1.out).keep0 HEk.out)
          obtain ⟨hs0, hs1, _, _⟩ := hbd
          have hxm : at' (ms ts) q = M ts q := rfl
          rw [hxm] at HSW
          generalize M ts q = mx at *
          clear hmem p0 p1 hf hxm
          go_wp2_with fail
          refine K.mono ?_
          clear K
          rintro e w2 ⟨rfl, hE2⟩
          have HE2 := hid (HEk.out.trans hE2)
          clear hE2
          go_wp2_with fail
          go_roundw
          case rel => exact ⟨k + 1, by go_num, by omega, by rw [HSW.out], HE2.out⟩
          case measure => simp [intOf]; omega
        · obtain rfl : k = ps.length := by omega
          go_wp2_with fail
          go_ret
          refine ⟨ret_int ?_, HE1.out.trans HEk.out⟩
          rw [HRE.out, List.take_length]

theorem plain_cmp {ts : List Ty} {i : Nat} (h : Formed ts i) (hi : i < ts.length) (h6 : ¬ ((tyAt ts i).kind = 6 ∨ (tyAt ts i).kind = 10)) : (M ts i).cmp = allCmp (ms ts) (parts (tyAt ts i)) := by
  by_cases hp : parts (tyAt ts i) = []
  · have h8 := plain_kind h hp
    rw [h.eq hi, hp]
    unfold meas
    rw [if_neg h6, if_neg h8]
    split
    · rfl
    · split
      · rfl
      · split <;> rfl
  · rw [made_of h hi hp]
theorem map_cmp {ts : List Ty} {i : Nat} (h : Formed ts i) (hi : i < ts.length) (h6 : (tyAt ts i).kind = 6 ∨ (tyAt ts i).kind = 10) : (M ts i).cmp = false := by
  rw [h.eq hi]
  unfold meas
  rw [if_neg (by omega), if_neg (by omega), if_pos h6]

theorem allCmp_false {E : List Me} {l : List Int} {k : Nat} (hk : k < l.length) (h : (at' E (l.getD k 0)).cmp = false) : allCmp E l = false := by
  have h1 := allCmp_snoc E l k hk
  have h2 : allCmp E l = (allCmp E (l.take (k + 1)) && allCmp E (l.drop (k + 1))) := by rw [← allCmp_append, List.take_append_drop]
  rw [h2, h1, h]
  simp

set_option maxRecDepth 100000 in
set_option maxHeartbeats 1000000 in
theorem comparOf_any (ts : List Ty) (a : Option Addr) (n c : Nat) (hn : ts.length = n) (hS : AllOk ts) : ∀ (N i : Nat), i < N → i < n → ∀ w, Tab w a ts →
    Calls Tryd.prog 70 #[.slice a n c, .int .i64 i] w (SayPost w (.bool (M ts i).cmp))
  | 0, _, h, _, _, _ => by omega
  | N + 1, i, hiN, hi, w, hT => by
    have HIH := hid (comparOf_any ts a n c hn hS N)
    have hfm := (hS i (by omega)).1
    obtain ⟨b, o, rfl, hta⟩ := hT.addr (by omega)
    obtain ⟨fa, fc, htt⟩ := hta i (by omega)
    obtain ⟨d0, d1, d2, d3, d4, hfo⟩ := htt
    have KP := parts_any (tyAt ts i) fa fc w hfo (fun h => by have := hfm.2.2.2.2.1 h; omega)
    unfold tyVal at KP
    have hl := hT.len
    rw [hn] at hl
    have HT := hid hT
    have HBW := hid hfm.below
    have hlp := hfm.length_parts
    have HPC0 := hid (plain_cmp hfm (by omega))
    have HMC := hid (map_cmp hfm (by omega))
    have HN := hid hn
    clear hta hfo hT hfm hn hS
    by_cases h6 : (tyAt ts i).kind = 6
    · have HV := hid (HMC.out (.inl h6))
      rw [h6] at d0
      clear h6 HMC HPC0
      go_enter Tryd.func70, Tryd.ntmps70
      go_wp2_with fail
      go_ret
      exact ⟨ret_bool HV.out.symm, Ext.refl _ _⟩
    by_cases h10 : (tyAt ts i).kind = 10
    · have HV := hid (HMC.out (.inr h10))
      rw [h10] at d0
      clear h6 h10 HMC HPC0
      go_enter Tryd.func70, Tryd.ntmps70
      go_wp2_with fail
      go_ret
      exact ⟨ret_bool HV.out.symm, Ext.refl _ _⟩
    have HV := hid (HPC0.out (by omega))
    have b6 : ((tyAt ts i).kind == 6) = false := by simpa using h6
    have b10 : ((tyAt ts i).kind == 10) = false := by simpa using h10
    clear h6 h10 HMC HPC0
    go_enter Tryd.func70, Tryd.ntmps70
    go_wp2_with fail
    refine KP.mono ?_
    rintro e w1 ⟨qa, qc, rfl, hO1, hE1⟩
    have HQ := hid (own_vs hO1)
    have HE1 := hid hE1
    clear KP hO1 hE1 d0 d1 d2 d3 d4
    generalize parts (tyAt ts i) = ps at *
    go_wp2_with fail
    go_loopw [6] (fun u wr => ∃ k : Nat, u = .int .i64 k ∧ k ≤ ps.length ∧ allCmp (ms ts) (ps.take k) = true ∧ Ext [] w1 wr) (fun u _ => (ps.length - (intOf u)).toNat)
    case atStart => exact ⟨0, rfl, Nat.zero_le _, rfl, Ext.refl _ _⟩
    case round =>
      obtain ⟨k, rfl, hkl, hck0, hEk⟩ := hrel
      have HEk := hid hEk
      have HCK := hid hck0
      clear hEk hck0
      by_cases hkm : k < ps.length
      · obtain ⟨pb, po, rfl, hpc⟩ := Is.at_ (show Is w1 qa ps from HQ.out) (by intro h; rw [h] at hkm; simp at hkm)
        have hck := HEk.out.cell (hpc k hkm) (by simp)
        have hmem : ps.getD k 0 ∈ ps := by simp [List.getD, hkm]
        obtain ⟨p0, p1, _⟩ := HBW.out _ hmem
        have HSC := hid (allCmp_snoc (ms ts) ps k hkm)
        have HAF := hid (allCmp_false (E := ms ts) hkm)
        generalize ps.getD k 0 = x at *
        obtain ⟨q, rfl⟩ : ∃ q : Nat, x = q := ⟨x.toNat, by omega⟩
        have K := HIH.out q (by omega) (by omega) wr ((HT.out.keep0 HE1.out).keep0 HEk.out)
        have hxm : at' (ms ts) q = M ts q := rfl
        rw [hxm] at HSC HAF
        generalize M ts q = mx at *
        clear hmem p0 p1 hxm hpc
        by_cases hx : mx.cmp = true
        · rw [hx] at K
          have HX := hid hx
          clear hx
          go_wp2_with fail
          refine K.mono ?_
          clear K
          rintro e w2 ⟨rfl, hE2⟩
          have HE2 := hid (HEk.out.trans hE2)
          clear hE2
          go_wp2_with fail
          go_roundw
          case rel => exact ⟨k + 1, by go_num, by omega, by rw [HSC.out, HCK.out, HX.out]; rfl, HE2.out⟩
          case measure => simp [intOf]; omega
        · have hx : mx.cmp = false := by simpa using hx
          rw [hx] at K
          have HX := hid hx
          clear hx
          go_wp2_with fail
          refine K.mono ?_
          clear K
          rintro e w2 ⟨rfl, hE2⟩
          have HE2 := hid (HEk.out.trans hE2)
          clear hE2
          go_wp2_with fail
          go_ret
          exact ⟨ret_bool (by rw [HV.out, HAF.out HX.out]), HE1.out.trans HE2.out⟩
      · obtain rfl : k = ps.length := by omega
        go_wp2_with fail
        go_ret
        refine ⟨ret_bool ?_, HE1.out.trans HEk.out⟩
        have := HCK.out
        rw [List.take_length] at this
        rw [HV.out, this]

end Go.Proofs.YtfabhhmeanpmhaaDoor
