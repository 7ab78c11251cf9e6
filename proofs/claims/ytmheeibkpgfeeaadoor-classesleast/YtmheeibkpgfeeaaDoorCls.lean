/-
  Class and Room, and the statements' own reference of them; no statement is proved here.
-/
import Derived.Test.YtmheeibkpgfeeaaDoorBase
namespace Go.Proofs.YtmheeibkpgfeeaaDoor
open Go.RowKit

theorem k8 {k : Nat} (h : k < 8) : k = 0 ∨ k = 1 ∨ k = 2 ∨ k = 3 ∨ k = 4 ∨ k = 5 ∨ k = 6 ∨ k = 7 := by omega

theorem cls_at {s : Int} {k : Nat} (hk : k < 8) (hlo : ∀ j, j < k → sz j < s) (h : s ≤ sz k) : clsN s = k := by
  have h1 := hlo (k - 1)
  rcases k8 hk with rfl | rfl | rfl | rfl | rfl | rfl | rfl | rfl <;> simp [sz] at h h1 <;> unfold clsN
  all_goals
    repeat' split
    all_goals omega

theorem sz_le {k : Nat} (h : k < 8) : 8 ≤ sz k ∧ sz k ≤ 128 := by
  rcases k8 h with rfl | rfl | rfl | rfl | rfl | rfl | rfl | rfl <;> decide

theorem idx_sz (w : World) (k : Nat) (h : k < 8) : (Instr.index 28 (.agg #[.int .i64 8, .int .i64 16, .int .i64 24, .int .i64 32, .int .i64 48, .int .i64 64, .int .i64 96, .int .i64 128]) (.int .i64 (k : Int))).run Tryd.prog w = .ok (.int .i64 (sz k)) w := by
  rcases k8 h with rfl | rfl | rfl | rfl | rfl | rfl | rfl | rfl <;> simp [Instr.index, run_underlying Tryd.underlying28, asIntOf, go_sem, sz]

set_option maxRecDepth 100000 in
set_option maxHeartbeats 4000000 in
theorem class_any (s : Int) (w : World) (hG : Gl w) : Calls Tryd.prog 7 #[.int .i64 s] w fun e w' => e = .returned (.tuple #[.int .i64 (clsV s), .int .i64 (clsE s)]) ∧ w' = w := by
  have K := allowed_any s w
  by_cases h : Ok s
  · rw [show decide (Ok s) = true by simpa using h] at K
    have c0 := hG 0 (by omega)
    have c1 := hG 1 (by omega)
    have c2 := hG 2 (by omega)
    have c3 := hG 3 (by omega)
    have c4 := hG 4 (by omega)
    have c5 := hG 5 (by omega)
    have c6 := hG 6 (by omega)
    have c7 := hG 7 (by omega)
    simp only [sz, List.getD_cons_succ, List.getD_cons_zero] at c0 c1 c2 c3 c4 c5 c6 c7
    have HO := hid h
    clear h hG
    go_enter Tryd.func7, Tryd.ntmps7
    go_wp2_with (go_at_call 17; refine met K ?_)
    go_loopw [10] (fun q wr => ∃ k : Nat, q = .int .i64 k ∧ k ≤ 8 ∧ wr = w ∧ ∀ j, j < k → sz j < s) (fun q _ => (8 - (intOf q)).toNat)
    case atStart => exact ⟨0, rfl, by omega, rfl, by omega⟩
    case round =>
      obtain ⟨k, rfl, hk, rfl, hlo⟩ := hrel
      by_cases hlt : k < 8
      · have hAt := cls_at (s := s) hlt hlo
        have hZ := sz_le hlt
        have HL := hid hlo
        clear hlo
        by_cases hs : s ≤ sz k
        · have hv : Hid (clsV s = k) := by show _ = _; rw [clsV, if_pos ⟨HO.out, by omega⟩, hAt hs]
          have he : Hid (clsE s = 0) := by show _ = _; rw [clsE, if_pos HO.out, if_pos (by omega)]
          have hI := idx_sz wr k hlt
          have h8 : (k : Int) < 8 := by omega
          clear hAt hZ hk hlt
          generalize sz k = z at *
          go_wp2_with fail
          go_ret2
          exact ⟨by rw [hv.out, he.out]; rfl, rfl⟩
        · have hn : Hid (∀ j, j < k + 1 → sz j < s) := fun j hj => by
            rcases (by omega : j < k ∨ j = k) with h | rfl
            · exact HL.out j h
            · omega
          have hI := idx_sz wr k hlt
          have h8 : (k : Int) < 8 := by omega
          clear hAt hZ hk HL
          generalize sz k = z at *
          go_wp2_with fail
          go_roundw
          case rel => exact ⟨k + 1, by go_num, by omega, trivial, hn.out⟩
          case measure => simp [intOf]; omega
      · obtain rfl : k = 8 := by omega
        have hs : ¬ s ≤ 128 := by have := hlo 7 (by omega); simp [sz] at this; omega
        have hv : Hid (clsV s = 0) := by show _ = _; rw [clsV, if_neg (by simp [hs])]
        have he : Hid (clsE s = 6) := by show _ = _; rw [clsE, if_pos HO.out, if_neg hs]
        clear hlo hk hlt
        go_wp2_with fail
        go_ret2
        exact ⟨by rw [hv.out, he.out]; rfl, rfl⟩
  · have hv : clsV s = 0 := by rw [clsV, if_neg (by simp [h])]
    have he : clsE s = 2 := by rw [clsE, if_neg h]
    rw [hv, he]
    rw [show decide (Ok s) = false by simpa using h] at K
    clear hv he h hG
    go_enter Tryd.func7, Tryd.ntmps7
    go_wp2_with (go_at_call 17; refine met K ?_)
    go_ret2
    exact ⟨rfl, rfl⟩

theorem clsN_lt (s : Int) : clsN s < 8 := by unfold clsN; repeat' split
                                             all_goals omega

set_option maxRecDepth 100000 in
set_option maxHeartbeats 4000000 in
theorem room_any (s : Int) (w : World) (hG : Gl w) : Calls Tryd.prog 11 #[.int .i64 s] w fun e w' => e = .returned (.tuple #[.int .i64 (rmV s), .int .i64 (pgE s)]) ∧ w' = w := by
  have K := class_any s w hG
  by_cases h : Ok s
  · by_cases h1 : s ≤ 128
    · have hv : rmV s = sz (clsN s) := by rw [rmV, if_pos h, if_pos h1]
      have he : pgE s = 0 := by rw [pgE, if_pos h]
      have hc : clsE s = 0 := by rw [clsE, if_pos h, if_pos h1]
      have hx : clsV s = clsN s := by rw [clsV, if_pos ⟨h, h1⟩]
      have hl := clsN_lt s
      rw [hc, hx] at K
      rw [hv, he]
      have K2 := slot_any (clsN s) w hG
      rw [show slV (clsN s) = sz (clsN s) by rw [slV, if_pos (by omega)]; rfl, show slE (clsN s) = 0 by rw [slE, if_pos (by omega)]] at K2
      clear hv he hc hx hG h h1 hl
      generalize sz (clsN s) = z at *
      generalize clsN s = m at *
      go_enter Tryd.func11, Tryd.ntmps11
      go_wp2_with (first | (go_at_call 7; refine met K ?_) | (go_at_call 13; refine met K2 ?_))
      go_ret2
      exact ⟨rfl, rfl⟩
    · have hv : rmV s = (s + 255) / 256 * 256 := by rw [rmV, if_pos h, if_neg h1]
      have he : pgE s = 0 := by rw [pgE, if_pos h]
      have hc : clsE s = 6 := by rw [clsE, if_pos h, if_neg h1]
      have hx : clsV s = 0 := by rw [clsV, if_neg (by simp [h1])]
      have K2 := pages_any s w
      rw [he, show pgV s = (s + 255) / 256 by rw [pgV, if_pos h]] at K2
      rw [hc, hx] at K
      rw [hv, he]
      obtain ⟨g1, g2⟩ := h
      have e1 : IntKind.wrap .i64 ((s + 255) / 256 * 256) = (s + 255) / 256 * 256 := by rw [IntKind.wrap_i64]; omega
      clear hv he hc hx hG h1
      go_enter Tryd.func11, Tryd.ntmps11
      go_wp2_with (first | (go_at_call 7; refine met K ?_) | (go_at_call 9; refine met K2 ?_))
      go_ret2
      exact ⟨rfl, rfl⟩
  · have hv : rmV s = 0 := by rw [rmV, if_neg h]
    have he : pgE s = 2 := by rw [pgE, if_neg h]
    have hc : clsE s = 2 := by rw [clsE, if_neg h]
    have hx : clsV s = 0 := by rw [clsV, if_neg (by simp [h])]
    rw [hc, hx] at K
    rw [hv, he]
    clear hv he hc hx hG h
    go_enter Tryd.func11, Tryd.ntmps11
    go_wp2_with (go_at_call 7; refine met K ?_)
    go_ret2
    exact ⟨rfl, rfl⟩

theorem awake_any (w : World) (hG : Gl w) : Calls Tryd.prog 6 #[] w fun e w' => e = .returned (.bool true) ∧ w' = w := by
  have K := slot_any 0 w hG
  rw [show slV 0 = 8 from rfl, show slE 0 = 0 from rfl] at K
  go_enter Tryd.func6, Tryd.ntmps6
  go_wp2_with (go_at_call 13; refine met K ?_)
  go_ret
  exact ⟨rfl, rfl⟩

/-! ### the reference -/

set_option maxRecDepth 100000 in
set_option maxHeartbeats 4000000 in
theorem rslot_any (c : Int) (w : World) : Calls Tryd.prog 14 #[.int .i64 c] w (SayPost w (.tuple #[.int .i64 (slV c), .int .i64 (slE c)])) := by
  by_cases h : 0 ≤ c ∧ c ≤ 7
  · have he : slE c = 0 := by rw [slE, if_pos h]
    rw [he]
    clear he
    have : c = 0 ∨ c = 1 ∨ c = 2 ∨ c = 3 ∨ c = 4 ∨ c = 5 ∨ c = 6 ∨ c = 7 := by omega
    clear h
    rcases this with rfl | rfl | rfl | rfl | rfl | rfl | rfl | rfl
    all_goals
      go_enter Tryd.func14, Tryd.ntmps14
      go_wp2
      go_ret2
      exact ⟨rfl, Ext.alloc [] _ _⟩
  · have hv : slV c = 0 := by rw [slV, if_neg h]
    have he : slE c = 2 := by rw [slE, if_neg h]
    rw [hv, he]
    clear hv he
    rcases (by omega : c < 0 ∨ (¬ c < 0 ∧ 8 ≤ c)) with h1 | ⟨h1, h2⟩
    all_goals
      clear h
      go_enter Tryd.func14, Tryd.ntmps14
      go_wp2
      go_ret2
      exact ⟨rfl, Ext.alloc [] _ _⟩

end Go.Proofs.YtmheeibkpgfeeaaDoor
