/-
  Is a number in a list, and are two lists the same; no statement is proved here.
-/
import Derived.Test.YtfgdoehiocgkhaaBase
namespace Go.Proofs.Ytfgdoehiocgkhaa
open Go.RowKit


theorem in_any (a : Option Addr) (n c : Nat) (l : List Int) (x : Int) (w : World) (hI : Is w a l) (hn : l.length = n) (hb : n ≤ 17592186044416) : Calls Try.prog 15 #[.slice a n c, .int .i64 x] w fun e w' => e = .returned (.bool (decide (x ∈ l))) ∧ w' = w := by
  have HI := hid hI
  have HM := hid hn
  clear hI hn
  go_enter Try.func15, Try.ntmps15
  go_wp2
  go_loop [5] (fun q => ∃ k : Nat, q = .int .i64 k ∧ k ≤ n ∧ x ∉ l.take k) (fun q => (n - (intOf q)).toNat)
  case atStart => exact ⟨0, rfl, Nat.zero_le _, by simp⟩
  case round =>
    obtain ⟨k, rfl, hk, hin⟩ := hrel
    have HN := hid hin
    clear hin
    by_cases hlt : k < n
    · obtain ⟨b, o, rfl, hc⟩ := HI.out.cell (j := k) (by rw [HM.out]; exact hlt)
      have HT : Hid (l.take (k + 1) = l.take k ++ [l.getD k 0]) := by
        show _ = _
        rw [List.take_add_one]; simp [show k < l.length by rw [HM.out]; exact hlt]
      have HMem : Hid (l.getD k 0 ∈ l) := by
        show _ ∈ _
        simp [show k < l.length by rw [HM.out]; exact hlt]
      generalize l.getD k 0 = y at *
      by_cases h1 : y = x
      · have hb1 : (y == x) = true := by simp [h1]
        have HX : Hid (x ∈ l) := by show _ ∈ _; rw [← h1]; exact HMem.out
        clear h1
        go_wp2
        go_ret
        refine ⟨?_, rfl⟩
        have : decide (x ∈ l) = true := by simpa using HX.out
        rw [this]
        rfl
      · have hb1 : (y == x) = false := by simp [h1]
        go_wp2
        go_round
        case rel =>
          refine ⟨k + 1, by go_num, by omega, ?_⟩
          rw [HT.out, List.mem_append, List.mem_singleton]
          rintro (q | q)
          · exact HN.out q
          · exact h1 q.symm
        case measure => simp [intOf]; omega
    · obtain rfl : k = n := by omega
      go_wp2
      go_ret
      refine ⟨?_, rfl⟩
      have h := HN.out
      rw [← HM.out, List.take_length] at h
      have : decide (x ∈ l) = false := by simpa using h
      rw [this]
      rfl


theorem sameInts_true (a b : Option Addr) (n c d : Nat) (xs : List Int) (w : World) (ha : Is w a xs) (hb : Is w b xs) (hn : xs.length = n) (hm : n ≤ 17592186044416) :
    Calls Try.prog 29 #[.slice a n c, .slice b n d] w (SayPost w (.bool true)) := by
  by_cases h0 : n = 0
  · subst h0
    go_enter Try.func29, Try.ntmps29
    go_wp2
    go_loop [5] (fun q => q = .int .i64 0) (fun _ => 0)
    case atStart => rfl
    case round =>
      subst hrel
      go_wp2
      go_ret
      exact ⟨rfl, Ext.refl _ _⟩
  · have hne : xs ≠ [] := by rintro rfl; simp at hn; omega
    obtain ⟨b1, o1, rfl, hc1⟩ := ha.at_ hne
    obtain ⟨b2, o2, rfl, hc2⟩ := hb.at_ hne
    rw [hn] at hc1 hc2
    have H1 := hid hc1
    have H2 := hid hc2
    clear hc1 hc2 ha hb hn hne
    go_enter Try.func29, Try.ntmps29
    go_wp2
    go_loopw [5] (fun q wr => ∃ k m : Nat, q = .int .i64 k ∧ k ≤ n ∧ wr = w.drewN m) (fun q _ => (n - (intOf q)).toNat)
    case atStart => exact ⟨0, 0, rfl, Nat.zero_le _, rfl⟩
    case round =>
      obtain ⟨k, m, rfl, hk, rfl⟩ := hrel
      by_cases hkn : k < n
      · have hx := H1.out k hkn
        have hy := H2.out k hkn
        generalize xs.getD k 0 = x at *
        go_wp2
        go_quiet (fail)
        go_wp2
        go_roundw
        case rel => exact ⟨k + 1, _, by go_num, by omega, rfl⟩
        case measure => simp [intOf]; omega
      · go_wp2
        go_ret
        exact ⟨rfl, Ext.drewN _ _ _⟩

end Go.Proofs.Ytfgdoehiocgkhaa
