/-
  The statements' own reference of sizes, pages and room; no statement is proved here.
-/
import Derived.Test.YtmheeibkpgfeeaaDoorCls
namespace Go.Proofs.YtmheeibkpgfeeaaDoor
open Go.RowKit

theorem slV_at {k : Nat} (h : k < 8) : slV k = sz k := by rw [slV, if_pos (by omega)]; rfl
theorem slE_at {k : Nat} (h : k < 8) : slE k = 0 := by rw [slE, if_pos (by omega)]

set_option maxRecDepth 100000 in
set_option maxHeartbeats 4000000 in
theorem rslots_any (c : Int) (w : World) : Calls Tryd.prog 16 #[.int .i64 c] w (SayPost w (.tuple #[.int .i64 (snV c), .int .i64 (slE c)])) := by
  have K := rslot_any c w
  by_cases h : 0 ≤ c ∧ c ≤ 7
  · have hv : snV c = 256 / slV c := by rw [snV, slV, if_pos h, if_pos h]
    have he : slE c = 0 := by rw [slE, if_pos h]
    have hz : slV c ≠ 0 ∧ 0 ≤ slV c ∧ slV c ≤ 128 := by
      have : c = 0 ∨ c = 1 ∨ c = 2 ∨ c = 3 ∨ c = 4 ∨ c = 5 ∨ c = 6 ∨ c = 7 := by omega
      rcases this with rfl | rfl | rfl | rfl | rfl | rfl | rfl | rfl <;> decide
    rw [hv, he]
    rw [he] at K
    clear hv he h
    generalize slV c = z at *
    obtain ⟨h1, h2, h3⟩ := hz
    have h4 : (z == 0) = false := by simpa using h1
    have h5 : Int.tdiv 256 z = 256 / z := Int.tdiv_eq_ediv_of_nonneg (by omega)
    have h6 : 0 ≤ 256 / z := Int.ediv_nonneg (by omega) h2
    have h7 : 256 / z ≤ 256 := by have := Int.ediv_le_self (a := 256) z (by omega); omega
    have h8 : IntKind.wrap .i64 (256 / z) = 256 / z := by
      generalize 256 / z = q at *
      rw [IntKind.wrap_i64]; omega
    go_enter Tryd.func16, Tryd.ntmps16
    go_wp2_with (go_at_call 14; refine K.mono ?_; rintro e w1 ⟨rfl, hE⟩)
    go_ret2
    exact ⟨rfl, hE⟩
  · have hv : slV c = 0 := by rw [slV, if_neg h]
    have hv2 : snV c = 0 := by rw [snV, if_neg h]
    have he : slE c = 2 := by rw [slE, if_neg h]
    rw [hv, he] at K
    rw [hv2, he]
    clear hv hv2 he h
    go_enter Tryd.func16, Tryd.ntmps16
    go_wp2_with (go_at_call 14; refine K.mono ?_; rintro e w1 ⟨rfl, hE⟩)
    go_ret2
    exact ⟨rfl, hE⟩

set_option maxRecDepth 100000 in
set_option maxHeartbeats 4000000 in
theorem rpages_any (s : Int) (w : World) : Calls Tryd.prog 10 #[.int .i64 s] w fun e w' => e = .returned (.tuple #[.int .i64 (pgV s), .int .i64 (pgE s)]) ∧ w' = w := by
  by_cases h : Ok s
  · have hv : pgV s = (s + 255) / 256 := by rw [pgV, if_pos h]
    have he : pgE s = 0 := by rw [pgE, if_pos h]
    rw [hv, he]
    clear hv he
    obtain ⟨h1, h2⟩ := h
    have h3 : ¬ s < 1 := by omega
    have h4 : ¬ 65536 < s := by omega
    go_enter Tryd.func10, Tryd.ntmps10
    go_wp2_with fail
    go_loopw [4] (fun q wr => ∃ k : Nat, q = .int .i64 k ∧ 1 ≤ k ∧ ((k : Int) - 1) * 256 < s ∧ wr = w) (fun q _ => (65536 - (intOf q)).toNat)
    case atStart => exact ⟨1, rfl, by omega, by omega, rfl⟩
    case round =>
      obtain ⟨k, rfl, hk, hlo, rfl⟩ := hrel
      have e1 : IntKind.wrap .i64 ((k : Int) * 256) = (k : Int) * 256 := by rw [IntKind.wrap_i64]; omega
      by_cases hlt : (k : Int) * 256 < s
      · have e2 : IntKind.wrap .i64 ((k : Int) + 1) = (k : Int) + 1 := by rw [IntKind.wrap_i64]; omega
        go_wp2_with fail
        go_roundw
        case rel => exact ⟨k + 1, by simp, by omega, by omega, trivial⟩
        case measure => simp [intOf]; omega
      · have e3 : Hid ((s + 255) / 256 = (k : Int)) := by show _ = _; omega
        go_wp2_with fail
        go_ret2
        exact ⟨by rw [e3.out]; rfl, rfl⟩
  · have hv : pgV s = 0 := by rw [pgV, if_neg h]
    have he : pgE s = 2 := by rw [pgE, if_neg h]
    rw [hv, he]
    clear hv he
    rcases (by simp only [Ok] at h; omega : s < 1 ∨ (¬ s < 1 ∧ 65536 < s)) with h1 | ⟨h1, h2⟩
    all_goals
      clear h
      go_enter Tryd.func10, Tryd.ntmps10
      go_wp2
      go_ret2
      exact ⟨rfl, rfl⟩

set_option maxRecDepth 100000 in
set_option maxHeartbeats 4000000 in
theorem rclass_any (s : Int) (w : World) : Calls Tryd.prog 8 #[.int .i64 s] w (SayPost w (.tuple #[.int .i64 (clsV s), .int .i64 (clsE s)])) := by
  by_cases h : Ok s
  · have HO := hid h
    obtain ⟨h1, h2⟩ := h
    have h3 : ¬ s < 1 := by omega
    have h4 : ¬ 65536 < s := by omega
    clear h1 h2
    go_enter Tryd.func8, Tryd.ntmps8
    go_wp2_with fail
    go_loopw [4] (fun q wr => ∃ k : Nat, q = .int .i64 k ∧ k ≤ 8 ∧ Ext [] w wr ∧ ∀ j, j < k → sz j < s) (fun q _ => (8 - (intOf q)).toNat)
    case atStart => exact ⟨0, rfl, by omega, Ext.refl _ _, by omega⟩
    case round =>
      obtain ⟨k, rfl, hk, hE, hlo⟩ := hrel
      have HE := hid hE
      clear hE
      by_cases hlt : k < 8
      · have hAt := cls_at (s := s) hlt hlo
        have hZ := sz_le hlt
        have HL := hid hlo
        have K := rslot_any k wr
        rw [slV_at hlt, slE_at hlt] at K
        clear hlo
        by_cases hs : s ≤ sz k
        · have hv : Hid (clsV s = k) := by show _ = _; rw [clsV, if_pos ⟨HO.out, by omega⟩, hAt hs]
          have he : Hid (clsE s = 0) := by show _ = _; rw [clsE, if_pos HO.out, if_pos (by omega)]
          have h8 : (k : Int) < 8 := by omega
          clear hAt hZ hk hlt HL
          generalize sz k = z at *
          go_wp2_with (go_at_call 14; refine K.mono ?_; rintro e w1 ⟨rfl, hE1⟩)
          go_ret2
          exact ⟨by rw [hv.out, he.out]; rfl, HE.out.trans hE1⟩
        · have hn : Hid (∀ j, j < k + 1 → sz j < s) := fun j hj => by
            rcases (by omega : j < k ∨ j = k) with h | rfl
            · exact HL.out j h
            · omega
          have h8 : (k : Int) < 8 := by omega
          clear hAt hZ hk HL
          generalize sz k = z at *
          go_wp2_with (go_at_call 14; refine K.mono ?_; rintro e w1 ⟨rfl, hE1⟩)
          go_roundw
          case rel => exact ⟨k + 1, by go_num, by omega, HE.out.trans hE1, hn.out⟩
          case measure => simp [intOf]; omega
      · obtain rfl : k = 8 := by omega
        have hs : ¬ s ≤ 128 := by have := hlo 7 (by omega); simp [sz] at this; omega
        have hv : Hid (clsV s = 0) := by show _ = _; rw [clsV, if_neg (by simp [hs])]
        have he : Hid (clsE s = 6) := by show _ = _; rw [clsE, if_pos HO.out, if_neg hs]
        clear hlo hk hlt
        go_wp2_with fail
        go_ret2
        exact ⟨by rw [hv.out, he.out]; rfl, HE.out⟩
  · have hv : clsV s = 0 := by rw [clsV, if_neg (by simp [h])]
    have he : clsE s = 2 := by rw [clsE, if_neg h]
    rw [hv, he]
    clear hv he
    rcases (by simp only [Ok] at h; omega : s < 1 ∨ (¬ s < 1 ∧ 65536 < s)) with h1 | ⟨h1, h2⟩
    all_goals
      clear h
      go_enter Tryd.func8, Tryd.ntmps8
      go_wp2
      go_ret2
      exact ⟨rfl, Ext.refl _ _⟩

set_option maxRecDepth 100000 in
set_option maxHeartbeats 4000000 in
theorem rroom_any (s : Int) (w : World) : Calls Tryd.prog 12 #[.int .i64 s] w (SayPost w (.tuple #[.int .i64 (rmV s), .int .i64 (pgE s)])) := by
  have K1 := rpages_any s w
  have K := rclass_any s w
  by_cases h : Ok s
  · have he : pgE s = 0 := by rw [pgE, if_pos h]
    rw [he] at K1
    rw [he]
    by_cases h1 : s ≤ 128
    · have hv : rmV s = sz (clsN s) := by rw [rmV, if_pos h, if_pos h1]
      have hc : clsE s = 0 := by rw [clsE, if_pos h, if_pos h1]
      have hx : clsV s = clsN s := by rw [clsV, if_pos ⟨h, h1⟩]
      have hl := clsN_lt s
      rw [hc, hx] at K
      rw [hv]
      have K2 := rslot_any (clsN s)
      rw [slV_at hl, slE_at hl] at K2
      clear hv he hc hx h h1 hl
      generalize sz (clsN s) = z at *
      generalize clsN s = m at *
      go_enter Tryd.func12, Tryd.ntmps12
      go_wp2_with (first | (go_at_call 10; refine met K1 ?_) | (go_at_call 8; refine K.mono ?_; rintro e w1 ⟨rfl, hE⟩) | (go_at_call 14; refine (K2 _).mono ?_; rintro e w2 ⟨rfl, hE2⟩))
      go_ret2
      exact ⟨rfl, hE.trans hE2⟩
    · have hv : rmV s = (s + 255) / 256 * 256 := by rw [rmV, if_pos h, if_neg h1]
      have hc : clsE s = 6 := by rw [clsE, if_pos h, if_neg h1]
      have hx : clsV s = 0 := by rw [clsV, if_neg (by simp [h1])]
      rw [show pgV s = (s + 255) / 256 by rw [pgV, if_pos h]] at K1
      rw [hc, hx] at K
      rw [hv]
      obtain ⟨g1, g2⟩ := h
      have e1 : IntKind.wrap .i64 ((s + 255) / 256 * 256) = (s + 255) / 256 * 256 := by rw [IntKind.wrap_i64]; omega
      clear hv he hc hx h1
      go_enter Tryd.func12, Tryd.ntmps12
      go_wp2_with (first | (go_at_call 10; refine met K1 ?_) | (go_at_call 8; refine K.mono ?_; rintro e w1 ⟨rfl, hE⟩))
      go_ret2
      exact ⟨rfl, hE⟩
  · have hv : rmV s = 0 := by rw [rmV, if_neg h]
    have he : pgE s = 2 := by rw [pgE, if_neg h]
    rw [he] at K1
    rw [hv, he]
    clear hv he h
    go_enter Tryd.func12, Tryd.ntmps12
    go_wp2_with (go_at_call 10; refine met K1 ?_)
    go_ret2
    exact ⟨rfl, Ext.refl _ _⟩

end Go.Proofs.YtmheeibkpgfeeaaDoor
