/-
  What the statements' own helpers made and SameBytes do; no statement is proved here.
-/
import Derived.Test.YtnnagkinkckoeaaAwake
namespace Go.Proofs.Ytnnagkinkckoeaa
open Go.RowKit

/-- A new arena of at most 4096 bytes, in two new blocks. -/
def MadePost (w : World) (e : Ending) (w' : World) : Prop :=
  ∃ L : List Int, e = .returned (.pointer (some ⟨w.heap.size + 1, 0, none⟩)) ∧ Ar w' (w.heap.size + 1) w.heap.size L ∧ L.length ≤ 4096 ∧ Ext [] w w'

theorem Sl.cellAt {w : World} {b o : Nat} {xs : List Int} (h : Sl w (some ⟨b, o, none⟩) xs) (j : Nat) (hj : j < xs.length) : w.cell? ⟨b, o + j, none⟩ = some (.int .u8 (xs.getD j 0)) := by
  rcases h.at_ with rfl | ⟨b', o', he, hc⟩
  · simp at hj
  · simp only [Option.some.injEq, Addr.mk.injEq, and_true] at he
    obtain ⟨rfl, rfl⟩ := he
    exact hc j hj

theorem made_in (s : Nat) (hs : s ≤ 4096) (a : Option Addr) (n c : Nat) (xs : List Int) (w : World) (hS : Sl w a xs) (hn : xs.length = n) (hm : n ≤ maxLen) :
    Calls Try.prog 15 #[.int .i64 s, .slice a n c] w (MadePost w) := by
  unfold maxLen at hm
  have HS : Hid (Sl w a xs) := hS
  have HN : Hid (xs.length = n) := hn
  clear hS hn
  go_enter Try.func15, Try.ntmps15
  go_wp2_with (go_at_call 10; refine (new_ok s w (by omega)).mono ?_; rintro e w1 ⟨rfl, hA1, hE1⟩)
  have HA : Hid (Ar w1 (w.heap.size + 1) w.heap.size (List.replicate s 0)) := hA1
  have HE : Hid (Ext [] w w1) := hE1
  clear hA1 hE1
  go_loopw [7] (fun q wr => ∃ k : Nat, ∃ L : List Int, q = .int .i64 k ∧ k ≤ s ∧ k ≤ n ∧ Ar wr (w.heap.size + 1) w.heap.size L ∧ L.length = s ∧ Ext [w.heap.size] w1 wr) (fun q _ => (s - (intOf q)).toNat)
  case atStart => exact ⟨0, _, rfl, Nat.zero_le _, Nat.zero_le _, HA.out, by simp, Ext.refl _ _⟩
  case round =>
    obtain ⟨k, L, rfl, hk1, hk2, hA, hL, hE⟩ := hrel
    have HA1 : Hid (Ar wr (w.heap.size + 1) w.heap.size L) := hA
    have HL : Hid (L.length = s) := hL
    have HE1 : Hid (Ext [w.heap.size] w1 wr) := hE
    clear hA hL hE
    by_cases hkn : k < n
    · by_cases hks : k < s
      · have hS2 : Sl wr a xs := by
          rcases HS.out.at_ with h | ⟨b, o, rfl, hc⟩
          · exact ⟨.inl h, HS.out.ok⟩
          · have hb : b < w.heap.size := block_lt_of_cell (hc 0 (by rw [HN.out]; omega))
            exact (HS.out.keep HE.out (by simp)).keep HE1.out (fun ad had => by cases had; simp; omega)
        obtain ⟨b, o, rfl⟩ : ∃ b o, a = some ⟨b, o, none⟩ := by
          rcases hS2.at_ with h | ⟨b, o, h, _⟩
          · have := HN.out; rw [h] at this; simp at this; omega
          · exact ⟨b, o, h⟩
        have hce := hS2.cellAt k (by rw [HN.out]; exact hkn)
        have hbd := hS2.ok.getD k
        have K := store_ok k 1 (xs.getD k 0) (by omega) _ _ wr L HA1.out (by rw [HL.out]; omega) (by simp)
        generalize xs.getD k 0 = x at *
        clear hS2
        go_wp2_with (go_at_call 16; refine K.mono ?_; rintro e w2 ⟨rfl, hA2, hE2⟩)
        go_roundw
        case rel => exact ⟨k + 1, _, by go_num, by omega, by omega, hA2, by rw [length_put]; exact HL.out, HE1.out.trans hE2⟩
        case measure => simp [intOf]; omega
      · go_wp2
        go_ret
        exact ⟨L, rfl, HA1.out, by rw [HL.out]; exact hs, ((HE.out.mono (by simp)).trans HE1.out).drop (by simp)⟩
    · go_wp2
      go_ret
      exact ⟨L, rfl, HA1.out, by rw [HL.out]; exact hs, ((HE.out.mono (by simp)).trans HE1.out).drop (by simp)⟩

theorem made_out (s : Int) (h : s < 0 ∨ 4096 < s) (a : Option Addr) (n c : Nat) (xs : List Int) (w : World) (hS : Sl w a xs) (hn : xs.length = n) (hm : n ≤ maxLen) :
    Calls Try.prog 15 #[.int .i64 s, .slice a n c] w (MadePost w) := by
  unfold maxLen at hm
  have HS : Hid (Sl w a xs) := hS
  have HN : Hid (xs.length = n) := hn
  clear hS hn
  have h2 : ¬ (0 ≤ s ∧ s ≤ 4096) := by omega
  rcases h with h | h
  all_goals
    go_enter Try.func15, Try.ntmps15
    go_wp2_with (go_at_call 10; refine (new_ok 64 w (by omega)).mono ?_; rintro e w1 ⟨rfl, hA1, hE1⟩)
    have HA : Hid (Ar w1 (w.heap.size + 1) w.heap.size (List.replicate 64 0)) := hA1
    have HE : Hid (Ext [] w w1) := hE1
    clear hA1 hE1
    go_loopw [7] (fun q wr => ∃ k : Nat, ∃ L : List Int, q = .int .i64 k ∧ k ≤ 64 ∧ k ≤ n ∧ Ar wr (w.heap.size + 1) w.heap.size L ∧ L.length = 64 ∧ Ext [w.heap.size] w1 wr) (fun q _ => (64 - (intOf q)).toNat)
    case atStart => exact ⟨0, _, rfl, Nat.zero_le _, Nat.zero_le _, HA.out, by simp, Ext.refl _ _⟩
    case round =>
      obtain ⟨k, L, rfl, hk1, hk2, hA, hL, hE⟩ := hrel
      have HA1 : Hid (Ar wr (w.heap.size + 1) w.heap.size L) := hA
      have HL : Hid (L.length = 64) := hL
      have HE1 : Hid (Ext [w.heap.size] w1 wr) := hE
      clear hA hL hE
      by_cases hkn : k < n
      · by_cases hks : k < 64
        · have hS2 : Sl wr a xs := by
            rcases HS.out.at_ with h | ⟨b, o, rfl, hc⟩
            · exact ⟨.inl h, HS.out.ok⟩
            · have hb : b < w.heap.size := block_lt_of_cell (hc 0 (by rw [HN.out]; omega))
              exact (HS.out.keep HE.out (by simp)).keep HE1.out (fun ad had => by cases had; simp; omega)
          obtain ⟨b, o, rfl⟩ : ∃ b o, a = some ⟨b, o, none⟩ := by
            rcases hS2.at_ with h | ⟨b, o, h, _⟩
            · have := HN.out; rw [h] at this; simp at this; omega
            · exact ⟨b, o, h⟩
          have hce := hS2.cellAt k (by rw [HN.out]; exact hkn)
          have hbd := hS2.ok.getD k
          have K := store_ok k 1 (xs.getD k 0) (by omega) _ _ wr L HA1.out (by rw [HL.out]; omega) (by simp)
          generalize xs.getD k 0 = x at *
          clear hS2
          go_wp2_with (go_at_call 16; refine K.mono ?_; rintro e w2 ⟨rfl, hA2, hE2⟩)
          go_roundw
          case rel => exact ⟨k + 1, _, by go_num, by omega, by omega, hA2, by rw [length_put]; exact HL.out, HE1.out.trans hE2⟩
          case measure => simp [intOf]; omega
        · go_wp2
          go_ret
          exact ⟨L, rfl, HA1.out, by rw [HL.out]; omega, ((HE.out.mono (by simp)).trans HE1.out).drop (by simp)⟩
      · go_wp2
        go_ret
        exact ⟨L, rfl, HA1.out, by rw [HL.out]; omega, ((HE.out.mono (by simp)).trans HE1.out).drop (by simp)⟩

theorem made_any (s : Int) (hs : I64 s) (a : Option Addr) (n c : Nat) (xs : List Int) (w : World) (hS : Sl w a xs) (hn : xs.length = n) (hm : n ≤ maxLen) :
    Calls Try.prog 15 #[.int .i64 s, .slice a n c] w (MadePost w) := by
  by_cases h : 0 ≤ s ∧ s ≤ 4096
  · obtain ⟨S, rfl⟩ : ∃ S : Nat, s = S := ⟨s.toNat, by omega⟩
    exact made_in S (by omega) a n c xs w hS hn hm
  · exact made_out s (by omega) a n c xs w hS hn hm

/-! ### SameBytes -/

theorem same_true (a b : Option Addr) (n c d : Nat) (xs : List Int) (w : World) (ha : Sl w a xs) (hb : Sl w b xs) (hn : xs.length = n) (hm : n ≤ maxLen) :
    Calls Try.prog 14 #[.slice a n c, .slice b n d] w (SayPost w (.bool true)) := by
  unfold maxLen at hm
  by_cases h0 : n = 0
  · subst h0
    go_enter Try.func14, Try.ntmps14
    go_wp2
    go_loop [5] (fun q => q = .int .i64 0) (fun _ => 0)
    case atStart => rfl
    case round =>
      subst hrel
      go_wp2
      go_ret
      exact ⟨rfl, Ext.refl _ _⟩
  · obtain ⟨b1, o1, rfl, hc1⟩ : ∃ b o, a = some ⟨b, o, none⟩ ∧ ∀ j, j < n → w.cell? ⟨b, o + j, none⟩ = some (.int .u8 (xs.getD j 0)) := by
      rcases ha.at_ with h | ⟨b, o, h, hc⟩
      · rw [h] at hn; simp at hn; omega
      · exact ⟨b, o, h, by rw [← hn]; exact hc⟩
    obtain ⟨b2, o2, rfl, hc2⟩ : ∃ b' o, b = some ⟨b', o, none⟩ ∧ ∀ j, j < n → w.cell? ⟨b', o + j, none⟩ = some (.int .u8 (xs.getD j 0)) := by
      rcases hb.at_ with h | ⟨b, o, h, hc⟩
      · rw [h] at hn; simp at hn; omega
      · exact ⟨b, o, h, by rw [← hn]; exact hc⟩
    clear ha hb hn
    have H1 : Hid (∀ j, j < n → w.cell? ⟨b1, o1 + j, none⟩ = some (.int .u8 (xs.getD j 0))) := hc1
    have H2 : Hid (∀ j, j < n → w.cell? ⟨b2, o2 + j, none⟩ = some (.int .u8 (xs.getD j 0))) := hc2
    clear hc1 hc2
    go_enter Try.func14, Try.ntmps14
    go_wp2
    go_loopw [5] (fun q wr => ∃ k m : Nat, q = .int .i64 k ∧ k ≤ n ∧ wr = w.drewN m) (fun q _ => (n - (intOf q)).toNat)
    case atStart => exact ⟨0, 0, rfl, Nat.zero_le _, rfl⟩
    case round =>
      obtain ⟨k, m, rfl, hk, rfl⟩ := hrel
      by_cases hkn : k < n
      · have hx := H1.out k hkn
        have hy := H2.out k hkn
        generalize xs.getD k 0 = x at *
        go_wp2
        go_quiet (fail)
        go_wp2
        go_roundw
        case rel => exact ⟨k + 1, _, by go_num, by omega, rfl⟩
        case measure => simp [intOf]; omega
      · go_wp2
        go_ret
        exact ⟨rfl, Ext.drewN _ _ _⟩

end Go.Proofs.Ytnnagkinkckoeaa
