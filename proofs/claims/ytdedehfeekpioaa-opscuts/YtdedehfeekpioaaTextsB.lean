/-
  Bytes picked from texts, and the reference's words of texts; no statement is proved here.
-/
import Derived.Test.YtdedehfeekpioaaTexts
import Derived.Test.YtdedehfeekpioaaArith
namespace Go.Proofs.Ytdedehfeekpioaa
open Go.RowKit

/-- The byte at a place. -/
def byT (s : ByteArray) (i : Nat) : Int := ((s.data.getD i 0).toNat : Int)
def ueV (n e : Int) : Value := .tuple #[.int .u64 n, .int .i64 e]
theorem byT_at (s : ByteArray) (i : Nat) (h : i < s.size) : IntKind.u64.wrap ((s[i].toNat : Nat) : Int) = byT s i := by
  rw [wrapU]
  unfold um byT
  have h1 : s.data.getD i 0 = s[i] := by
    have : i < s.data.size := h
    unfold Array.getD
    rw [dif_pos this]
    rfl
  rw [h1]
  have := s[i].toNat_lt
  omega
theorem byte_any (s : ByteArray) (i : Int) (w : World) (hs : s.size ≤ 140737488351232) (hi : U i) : Calls Try.prog 15 #[.string s, .int .u64 i] w (SayPost w (if i < s.size then ueV (byT s i.toNat) 0 else ueV 0 5)) := by
  have e1 : IntKind.u64.wrap (s.size : Int) = (s.size : Int) := by rw [wrapU]; unfold um; omega
  obtain ⟨i, rfl⟩ : ∃ n : Nat, i = n := ⟨i.toNat, by unfold U at hi; omega⟩
  by_cases h1 : (i : Int) < s.size
  · rw [if_pos h1]
    have h2 : ¬ (s.size : Int) ≤ i := by omega
    have h3 : i < s.size := by omega
    have HB := hid (byT_at s i h3)
    unfold ueV
    clear hi
    go_enter Try.func15, Try.ntmps15
    go_wp2_with fail
    go_ret2
    exact ⟨by show _ = Ending.returned (.tuple #[.int .u64 (byT s i), .int .i64 0]); rw [← HB.out]; rfl, Ext.refl _ _⟩
  · rw [if_neg h1]
    have h2 : (s.size : Int) ≤ i := by omega
    unfold ueV
    clear hi
    go_enter Try.func15, Try.ntmps15
    go_wp2_with fail
    go_ret2
    exact ⟨rfl, Ext.refl _ _⟩
theorem wsg {i : Int} (hi : U i) : wrap64 i = sg i := w64u hi
theorem rslice_any (s : ByteArray) (i j : Int) (w : World) (hs : s.size ≤ 140737488351232) (hi : U i) (hj : U j) : Calls Try.prog 14 #[.string s, .int .u64 i, .int .u64 j] w (SayPost w (if i ≤ j ∧ j ≤ s.size then teV (cutT s i j) 0 else teV ⟨#[]⟩ 5)) := by
  have ei := wsg hi
  have ej := wsg hj
  by_cases h1 : i ≤ j ∧ j ≤ s.size
  · rw [if_pos h1]
    obtain ⟨h1, h2⟩ := h1
    unfold cutT teV
    obtain ⟨i, rfl⟩ : ∃ n : Nat, i = n := ⟨i.toNat, by unfold U at hi; omega⟩
    obtain ⟨j, rfl⟩ : ∃ n : Nat, j = n := ⟨j.toNat, by unfold U at hj; omega⟩
    have e3 : sg (i : Int) = i := by unfold sg; split <;> omega
    have e4 : sg (j : Int) = j := by unfold sg; split <;> omega
    rw [e3] at ei
    rw [e4] at ej
    have h0 : (0 : Int) ≤ i := by omega
    clear hi hj e3 e4
    go_enter Try.func14, Try.ntmps14
    go_wp2_with fail
    go_ret2
    exact ⟨rfl, Ext.refl _ _⟩
  · rw [if_neg h1]
    unfold teV
    by_cases h2 : sg i < 0
    · clear hi hj h1
      go_enter Try.func14, Try.ntmps14
      go_wp2_with fail
      go_ret2
      exact ⟨rfl, Ext.refl _ _⟩
    · have h2' : decide (sg i < 0) = false := by simpa using h2
      by_cases h3 : sg j < sg i
      · clear hi hj h1
        go_enter Try.func14, Try.ntmps14
        go_wp2_with fail
        go_ret2
        exact ⟨rfl, Ext.refl _ _⟩
      · have h3' : decide (sg j < sg i) = false := by simpa using h3
        have h4 : (s.size : Int) < sg j := by
          unfold sg at *
          unfold U at *
          split at h2 <;> split at h3 <;> split <;> (try split at h3) <;> omega
        clear hi hj h1
        go_enter Try.func14, Try.ntmps14
        go_wp2_with fail
        go_ret2
        exact ⟨rfl, Ext.refl _ _⟩
theorem rbyte_any (s : ByteArray) (i : Int) (w : World) (hs : s.size ≤ 140737488351232) (hi : U i) : Calls Try.prog 16 #[.string s, .int .u64 i] w (SayPost w (if i < s.size then ueV (byT s i.toNat) 0 else ueV 0 5)) := by
  have ei := wsg hi
  by_cases h1 : i < s.size
  · rw [if_pos h1]
    obtain ⟨i, rfl⟩ : ∃ n : Nat, i = n := ⟨i.toNat, by unfold U at hi; omega⟩
    have e3 : sg (i : Int) = i := by unfold sg; split <;> omega
    rw [e3] at ei
    have h2 : ¬ (s.size : Int) ≤ i := by omega
    have h3 : i < s.size := by omega
    have h0 : (0 : Int) ≤ i := by omega
    have HB := hid (byT_at s i h3)
    unfold ueV
    clear hi e3
    go_enter Try.func16, Try.ntmps16
    go_wp2_with fail
    go_ret2
    exact ⟨by show _ = Ending.returned (.tuple #[.int .u64 (byT s i), .int .i64 0]); rw [← HB.out]; rfl, Ext.refl _ _⟩
  · rw [if_neg h1]
    unfold ueV
    by_cases h2 : sg i < 0
    · clear hi h1
      go_enter Try.func16, Try.ntmps16
      go_wp2_with fail
      go_ret2
      exact ⟨rfl, Ext.refl _ _⟩
    · have h2' : decide (sg i < 0) = false := by simpa using h2
      have h4 : (s.size : Int) ≤ sg i := by
        unfold sg at *
        unfold U at *
        split at h2 <;> split <;> omega
      clear hi h1
      go_enter Try.func16, Try.ntmps16
      go_wp2_with fail
      go_ret2
      exact ⟨rfl, Ext.refl _ _⟩
end Go.Proofs.Ytdedehfeekpioaa
