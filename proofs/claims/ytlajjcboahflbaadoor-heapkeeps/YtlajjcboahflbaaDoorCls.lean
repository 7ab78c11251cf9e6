/-
  The sizes of slots, their pages and their room, at the heap's seat; no statement is proved here.
-/
import Derived.Test.YtlajjcboahflbaaDoorBase
import Derived.Deep.RegionHeld3
import Derived.Deep.QuietTactic
import Derived.BigQuiet
import Derived.Deep.WholeRow
namespace Go.Proofs.YtlajjcboahflbaaDoor
open Go.RowKit

/-- The sizes of slots. -/
def sz (k : Nat) : Int := [8, 16, 24, 32, 48, 64, 96, 128].getD k 0
def Gl (w : World) : Prop := ∀ k, k ≤ 7 → w.cell? ⟨0, k, none⟩ = some (.int .i64 (sz k))
theorem Gl.keep0 {w w' : World} (h : Gl w) (e : Ext [] w w') : Gl w' := fun k hk => e.cell (h k hk) (by simp)

def Ok (s : Int) : Prop := 1 ≤ s ∧ s ≤ 65536
instance (s : Int) : Decidable (Ok s) := inferInstanceAs (Decidable (_ ∧ _))
def clsN (s : Int) : Nat := if s ≤ 8 then 0 else if s ≤ 16 then 1 else if s ≤ 24 then 2 else if s ≤ 32 then 3 else if s ≤ 48 then 4 else if s ≤ 64 then 5 else if s ≤ 96 then 6 else 7
def clsV (s : Int) : Int := if Ok s ∧ s ≤ 128 then clsN s else 0
def clsE (s : Int) : Int := if Ok s then (if s ≤ 128 then 0 else 6) else 2
def pgV (s : Int) : Int := if Ok s then (s + 255) / 256 else 0
def pgE (s : Int) : Int := if Ok s then 0 else 2
def rmV (s : Int) : Int := if Ok s then (if s ≤ 128 then sz (clsN s) else (s + 255) / 256 * 256) else 0
def slV (c : Int) : Int := if 0 ≤ c ∧ c ≤ 7 then sz c.toNat else 0
def slE (c : Int) : Int := if 0 ≤ c ∧ c ≤ 7 then 0 else 2
def snV (c : Int) : Int := if 0 ≤ c ∧ c ≤ 7 then 256 / sz c.toNat else 0

theorem allowed_any (s : Int) (w : World) : Calls Tryd.prog 70 #[.int .i64 s] w fun e w' => e = .returned (.bool (decide (Ok s))) ∧ w' = w := by
  by_cases h1 : 1 ≤ s
  · by_cases h2 : s ≤ 65536
    · have h : decide (Ok s) = true := by simp [Ok, h1, h2]
      rw [h]
      go_enter Tryd.func70, Tryd.ntmps70
      go_wp2
      go_ret
      exact ⟨rfl, rfl⟩
    · have h : decide (Ok s) = false := by simp [Ok, h2]
      rw [h]
      go_enter Tryd.func70, Tryd.ntmps70
      go_wp2
      go_ret
      exact ⟨rfl, rfl⟩
  · have h : decide (Ok s) = false := by simp [Ok, h1]
    rw [h]
    go_enter Tryd.func70, Tryd.ntmps70
    go_wp2
    go_ret
    exact ⟨rfl, rfl⟩

theorem slot_any (c : Int) (w : World) (hG : Gl w) : Calls Tryd.prog 69 #[.int .i64 c] w fun e w' => e = .returned (.tuple #[.int .i64 (slV c), .int .i64 (slE c)]) ∧ w' = w := by
  by_cases h : 0 ≤ c ∧ c ≤ 7
  · obtain ⟨n, rfl⟩ : ∃ n : Nat, c = n := ⟨c.toNat, by omega⟩
    have hc := hG n (by omega)
    have hv : slV (n : Int) = sz n := by rw [slV, if_pos h]; rfl
    have he : slE (n : Int) = 0 := by rw [slE, if_pos h]
    rw [hv, he]
    clear hG hv he
    generalize sz n = z at *
    have h1 : ¬ ((n : Int) < 0) := by omega
    have h2 : ¬ (8 ≤ (n : Int)) := by omega
    have h3 : n < 8 := by omega
    clear h
    go_enter Tryd.func69, Tryd.ntmps69
    go_wp2
    go_ret2
    exact ⟨rfl, rfl⟩
  · have hv : slV c = 0 := by rw [slV, if_neg h]
    have he : slE c = 2 := by rw [slE, if_neg h]
    rw [hv, he]
    clear hG hv he
    rcases (by omega : c < 0 ∨ (¬ c < 0 ∧ 8 ≤ c)) with h1 | ⟨h1, h2⟩
    all_goals
      clear h
      go_enter Tryd.func69, Tryd.ntmps69
      go_wp2
      go_ret2
      exact ⟨rfl, rfl⟩

theorem pages_any (s : Int) (w : World) : Calls Tryd.prog 38 #[.int .i64 s] w fun e w' => e = .returned (.tuple #[.int .i64 (pgV s), .int .i64 (pgE s)]) ∧ w' = w := by
  have K := allowed_any s w
  by_cases h : Ok s
  · have hv : pgV s = (s + 255) / 256 := by rw [pgV, if_pos h]
    have he : pgE s = 0 := by rw [pgE, if_pos h]
    rw [hv, he]
    rw [show decide (Ok s) = true by simpa using h] at K
    obtain ⟨h1, h2⟩ := h
    clear hv he
    have e1 : IntKind.wrap .i64 (s + 256) = s + 256 := by rw [IntKind.wrap_i64]; omega
    have e2 : IntKind.wrap .i64 (s + 256 - 1) = s + 255 := by rw [IntKind.wrap_i64]; omega
    have e3 : Int.tdiv (s + 255) 256 = (s + 255) / 256 := Int.tdiv_eq_ediv_of_nonneg (by omega)
    have e4 : IntKind.wrap .i64 ((s + 255) / 256) = (s + 255) / 256 := by rw [IntKind.wrap_i64]; omega
    go_enter Tryd.func38, Tryd.ntmps38
    go_wp2_with (go_at_call 70; refine met K ?_)
    go_ret2
    exact ⟨rfl, rfl⟩
  · have hv : pgV s = 0 := by rw [pgV, if_neg h]
    have he : pgE s = 2 := by rw [pgE, if_neg h]
    rw [hv, he]
    rw [show decide (Ok s) = false by simpa using h] at K
    clear hv he h
    go_enter Tryd.func38, Tryd.ntmps38
    go_wp2_with (go_at_call 70; refine met K ?_)
    go_ret2
    exact ⟨rfl, rfl⟩


theorem k8 {k : Nat} (h : k < 8) : k = 0 ∨ k = 1 ∨ k = 2 ∨ k = 3 ∨ k = 4 ∨ k = 5 ∨ k = 6 ∨ k = 7 := by omega

theorem cls_at {s : Int} {k : Nat} (hk : k < 8) (hlo : ∀ j, j < k → sz j < s) (h : s ≤ sz k) : clsN s = k := by
  have h1 := hlo (k - 1)
  rcases k8 hk with rfl | rfl | rfl | rfl | rfl | rfl | rfl | rfl <;> simp [sz] at h h1 <;> unfold clsN
  all_goals
    repeat' split
    all_goals omega

theorem sz_le {k : Nat} (h : k < 8) : 8 ≤ sz k ∧ sz k ≤ 128 := by
  rcases k8 h with rfl | rfl | rfl | rfl | rfl | rfl | rfl | rfl <;> decide

theorem idx_sz (w : World) (k : Nat) (h : k < 8) : (Instr.index 142 (.agg #[.int .i64 8, .int .i64 16, .int .i64 24, .int .i64 32, .int .i64 48, .int .i64 64, .int .i64 96, .int .i64 128]) (.int .i64 (k : Int))).run Tryd.prog w = .ok (.int .i64 (sz k)) w := by
  rcases k8 h with rfl | rfl | rfl | rfl | rfl | rfl | rfl | rfl <;> simp [Instr.index, run_underlying Tryd.underlying142, asIntOf, go_sem, sz]

set_option maxRecDepth 100000 in
set_option maxHeartbeats 4000000 in
theorem class_any (s : Int) (w : World) (hG : Gl w) : Calls Tryd.prog 68 #[.int .i64 s] w fun e w' => e = .returned (.tuple #[.int .i64 (clsV s), .int .i64 (clsE s)]) ∧ w' = w := by
  have K := allowed_any s w
  by_cases h : Ok s
  · rw [show decide (Ok s) = true by simpa using h] at K
    have c0 := hG 0 (by omega)
    have c1 := hG 1 (by omega)
    have c2 := hG 2 (by omega)
    have c3 := hG 3 (by omega)
    have c4 := hG 4 (by omega)
    have c5 := hG 5 (by omega)
    have c6 := hG 6 (by omega)
    have c7 := hG 7 (by omega)
    simp only [sz, List.getD_cons_succ, List.getD_cons_zero] at c0 c1 c2 c3 c4 c5 c6 c7
    have HO := hid h
    clear h hG
    go_enter Tryd.func68, Tryd.ntmps68
    go_wp2_with (go_at_call 70; refine met K ?_)
    go_loopw [10] (fun q wr => ∃ k : Nat, q = .int .i64 k ∧ k ≤ 8 ∧ wr = w ∧ ∀ j, j < k → sz j < s) (fun q _ => (8 - (intOf q)).toNat)
    case atStart => exact ⟨0, rfl, by omega, rfl, by omega⟩
    case round =>
      obtain ⟨k, rfl, hk, rfl, hlo⟩ := hrel
      by_cases hlt : k < 8
      · have hAt := cls_at (s := s) hlt hlo
        have hZ := sz_le hlt
        have HL := hid hlo
        clear hlo
        by_cases hs : s ≤ sz k
        · have hv : Hid (clsV s = k) := by show _ = _; rw [clsV, if_pos ⟨HO.out, by omega⟩, hAt hs]
          have he : Hid (clsE s = 0) := by show _ = _; rw [clsE, if_pos HO.out, if_pos (by omega)]
          have hI := idx_sz wr k hlt
          have h8 : (k : Int) < 8 := by omega
          clear hAt hZ hk hlt
          generalize sz k = z at *
          go_wp2_with fail
          go_ret2
          exact ⟨by rw [hv.out, he.out]; rfl, rfl⟩
        · have hn : Hid (∀ j, j < k + 1 → sz j < s) := fun j hj => by
            rcases (by omega : j < k ∨ j = k) with h | rfl
            · exact HL.out j h
            · omega
          have hI := idx_sz wr k hlt
          have h8 : (k : Int) < 8 := by omega
          clear hAt hZ hk HL
          generalize sz k = z at *
          go_wp2_with fail
          go_roundw
          case rel => exact ⟨k + 1, by go_num, by omega, trivial, hn.out⟩
          case measure => simp [intOf]; omega
      · obtain rfl : k = 8 := by omega
        have hs : ¬ s ≤ 128 := by have := hlo 7 (by omega); simp [sz] at this; omega
        have hv : Hid (clsV s = 0) := by show _ = _; rw [clsV, if_neg (by simp [hs])]
        have he : Hid (clsE s = 6) := by show _ = _; rw [clsE, if_pos HO.out, if_neg hs]
        clear hlo hk hlt
        go_wp2_with fail
        go_ret2
        exact ⟨by rw [hv.out, he.out]; rfl, rfl⟩
  · have hv : clsV s = 0 := by rw [clsV, if_neg (by simp [h])]
    have he : clsE s = 2 := by rw [clsE, if_neg h]
    rw [hv, he]
    rw [show decide (Ok s) = false by simpa using h] at K
    clear hv he h hG
    go_enter Tryd.func68, Tryd.ntmps68
    go_wp2_with (go_at_call 70; refine met K ?_)
    go_ret2
    exact ⟨rfl, rfl⟩

theorem clsN_lt (s : Int) : clsN s < 8 := by unfold clsN; repeat' split
                                             all_goals omega

set_option maxRecDepth 100000 in
set_option maxHeartbeats 4000000 in
theorem room_any (s : Int) (w : World) (hG : Gl w) : Calls Tryd.prog 37 #[.int .i64 s] w fun e w' => e = .returned (.tuple #[.int .i64 (rmV s), .int .i64 (pgE s)]) ∧ w' = w := by
  have K := class_any s w hG
  by_cases h : Ok s
  · by_cases h1 : s ≤ 128
    · have hv : rmV s = sz (clsN s) := by rw [rmV, if_pos h, if_pos h1]
      have he : pgE s = 0 := by rw [pgE, if_pos h]
      have hc : clsE s = 0 := by rw [clsE, if_pos h, if_pos h1]
      have hx : clsV s = clsN s := by rw [clsV, if_pos ⟨h, h1⟩]
      have hl := clsN_lt s
      rw [hc, hx] at K
      rw [hv, he]
      have K2 := slot_any (clsN s) w hG
      rw [show slV (clsN s) = sz (clsN s) by rw [slV, if_pos (by omega)]; rfl, show slE (clsN s) = 0 by rw [slE, if_pos (by omega)]] at K2
      clear hv he hc hx hG h h1 hl
      generalize sz (clsN s) = z at *
      generalize clsN s = m at *
      go_enter Tryd.func37, Tryd.ntmps37
      go_wp2_with (first | (go_at_call 68; refine met K ?_) | (go_at_call 69; refine met K2 ?_))
      go_ret2
      exact ⟨rfl, rfl⟩
    · have hv : rmV s = (s + 255) / 256 * 256 := by rw [rmV, if_pos h, if_neg h1]
      have he : pgE s = 0 := by rw [pgE, if_pos h]
      have hc : clsE s = 6 := by rw [clsE, if_pos h, if_neg h1]
      have hx : clsV s = 0 := by rw [clsV, if_neg (by simp [h1])]
      have K2 := pages_any s w
      rw [he, show pgV s = (s + 255) / 256 by rw [pgV, if_pos h]] at K2
      rw [hc, hx] at K
      rw [hv, he]
      obtain ⟨g1, g2⟩ := h
      have e1 : IntKind.wrap .i64 ((s + 255) / 256 * 256) = (s + 255) / 256 * 256 := by rw [IntKind.wrap_i64]; omega
      clear hv he hc hx hG h1
      go_enter Tryd.func37, Tryd.ntmps37
      go_wp2_with (first | (go_at_call 68; refine met K ?_) | (go_at_call 38; refine met K2 ?_))
      go_ret2
      exact ⟨rfl, rfl⟩
  · have hv : rmV s = 0 := by rw [rmV, if_neg h]
    have he : pgE s = 2 := by rw [pgE, if_neg h]
    have hc : clsE s = 2 := by rw [clsE, if_neg h]
    have hx : clsV s = 0 := by rw [clsV, if_neg (by simp [h])]
    rw [hc, hx] at K
    rw [hv, he]
    clear hv he hc hx hG h
    go_enter Tryd.func37, Tryd.ntmps37
    go_wp2_with (go_at_call 68; refine met K ?_)
    go_ret2
    exact ⟨rfl, rfl⟩


end Go.Proofs.YtlajjcboahflbaaDoor
