/-
  The numbers of the bits of a word as plain facts; no statement is proved here.
-/
import Derived.Test.YtkknadkcpndnaaaDoorMath
import Derived.Lib.TrailingZeros
namespace Go.Proofs.YtkknadkcpndnaaaDoor

/-- The numbers of a word's bits, rising. -/
def bsF (x : Nat) : List Nat := (List.range 64).filter (fun i => x.testBit i)
/-- The lowest bit's number, and the word without it. -/
def ct (x : Nat) : Nat := Lib.ctz 64 x
def dr (x : Nat) : Nat := x &&& (x - 1)

theorem bsF_zero : bsF 0 = [] := by simp [bsF]
theorem bsF_mem {x i : Nat} : i ∈ bsF x ↔ i < 64 ∧ x.testBit i = true := by simp [bsF]
theorem bsF_len (x : Nat) : (bsF x).length ≤ 64 := by
  have := List.length_filter_le (fun i => x.testBit i) (List.range 64)
  simpa [bsF] using this
theorem dr_lt {x : Nat} (h : x ≠ 0) : dr x < x := by
  have : dr x ≤ x - 1 := Nat.and_le_right
  omega
theorem ct_spec {x : Nat} (h0 : x ≠ 0) (h : x < 18446744073709551616) : ∃ m, x = 2 ^ ct x * (2 * m + 1) ∧ ct x < 64 := by
  have := Lib.ctzFrom_spec 64 x (by omega) h
  unfold ct Lib.ctz
  rw [if_neg h0]
  exact this
theorem odd_bit (k m i : Nat) : (2 ^ k * (2 * m + 1)).testBit i = (decide (i = k) || (decide (k < i) && m.testBit (i - k - 1))) := by
  rw [Nat.mul_comm, Nat.testBit_mul_two_pow]
  rcases Nat.lt_trichotomy i k with q | q | q
  · simp [show ¬ k ≤ i by omega, show i ≠ k by omega, show ¬ k < i by omega]
  · subst q; simp
  · obtain ⟨j, rfl⟩ : ∃ j, i = k + (j + 1) := ⟨i - k - 1, by omega⟩
    rw [show k + (j + 1) - k = j + 1 by omega, Nat.testBit_succ, show (2 * m + 1) / 2 = m by omega]
    simp
theorem dr_bit {x : Nat} (h0 : x ≠ 0) (h : x < 18446744073709551616) (i : Nat) : (dr x).testBit i = (decide (ct x < i) && x.testBit i) := by
  obtain ⟨m, hx, hk⟩ := ct_spec h0 h
  obtain ⟨k, hkk⟩ : ∃ k, ct x = k := ⟨_, rfl⟩
  rw [hkk] at hx hk ⊢
  unfold dr
  subst hx
  rw [Nat.testBit_and, odd_bit]
  have e : 2 ^ k * (2 * m + 1) - 1 = 2 ^ (k + 1) * m + (2 ^ k - 1) := by
    have : 0 < 2 ^ k := Nat.pow_pos (by omega)
    rw [Nat.mul_add, Nat.pow_succ, Nat.mul_assoc]; omega
  have hl : 2 ^ k - 1 < 2 ^ (k + 1) := by have := Nat.pow_pos (n := k) (show 0 < 2 by omega); rw [Nat.pow_succ]; omega
  rw [e]
  rcases Nat.lt_trichotomy i k with q | q | q
  · simp [show i ≠ k by omega, show ¬ k < i by omega]
  · subst q
    rw [Nat.testBit_two_pow_mul_add _ hl]
    simp
  · rw [Nat.testBit_two_pow_mul_add _ hl]
    have : ¬ i < k + 1 := by omega
    simp [this, q, show i ≠ k by omega, show i - (k + 1) = i - k - 1 by omega]
theorem bsF_step {x : Nat} (h0 : x ≠ 0) (h : x < 18446744073709551616) : bsF x = ct x :: bsF (dr x) := by
  obtain ⟨m, hx, hk⟩ := ct_spec h0 h
  have hb := dr_bit h0 h
  have ht : x.testBit (ct x) = true := by
    have : x.testBit (ct x) = (2 ^ ct x * (2 * m + 1)).testBit (ct x) := by rw [← hx]
    rw [this, odd_bit]; simp
  have hl : ∀ i, i < ct x → x.testBit i = false := by
    intro i hi
    have : x.testBit i = (2 ^ ct x * (2 * m + 1)).testBit i := by rw [← hx]
    rw [this, odd_bit]
    simp [show i ≠ ct x by omega, show ¬ ct x < i by omega]
  generalize ct x = k at *
  have e : List.range 64 = List.range k ++ k :: List.range' (k + 1) (63 - k) := by
    have h1 : k :: List.range' (k + 1) (63 - k) = List.range' k (64 - k) := by
      rw [show 64 - k = (63 - k) + 1 by omega, List.range'_succ]
    rw [h1, List.range_eq_range', List.range_eq_range', show List.range' k (64 - k) = List.range' (0 + 1 * k) (64 - k) by simp, List.range'_append]
    congr 1
    omega
  unfold bsF
  rw [e, List.filter_append, List.filter_append, List.filter_cons, List.filter_cons]
  have f1 : (List.range k).filter (fun i => x.testBit i) = [] := by
    rw [List.filter_eq_nil_iff]; intro i hi; rw [hl i (by simpa using hi)]; simp
  have f2 : (List.range k).filter (fun i => (dr x).testBit i) = [] := by
    rw [List.filter_eq_nil_iff]; intro i hi; rw [hb i, hl i (by simpa using hi)]; simp
  have f3 : (List.range' (k + 1) (63 - k)).filter (fun i => (dr x).testBit i) = (List.range' (k + 1) (63 - k)).filter (fun i => x.testBit i) := by
    apply List.filter_congr
    intro i hi
    rw [hb i]
    have : k < i := by simp [List.mem_range'] at hi; omega
    simp [this]
  rw [f1, f2, f3, ht, hb k]
  simp
/-- They rise. -/
theorem bsF_rise (x : Nat) : (bsF x).Pairwise (· < ·) := List.Pairwise.filter _ List.pairwise_lt_range

/-- The word of bits with these numbers. -/
def orA : List Nat → Nat
  | [] => 0
  | i :: l => 2 ^ i ||| orA l
theorem orA_bit (l : List Nat) (j : Nat) : (orA l).testBit j = decide (j ∈ l) := by
  induction l with
  | nil => simp [orA]
  | cons i l ih =>
    rw [orA, Nat.testBit_or, ih, Nat.testBit_two_pow]
    by_cases q : i = j
    · subst q; simp
    · simp [q, Ne.symm q]
theorem orA_snoc (l : List Nat) (i : Nat) : orA (l ++ [i]) = orA l ||| 2 ^ i := by
  apply Nat.eq_of_testBit_eq
  intro j
  rw [orA_bit, Nat.testBit_or, orA_bit, Nat.testBit_two_pow]
  by_cases q : i = j
  · subst q; simp
  · simp [q, Ne.symm q]
theorem orA_lt {l : List Nat} (h : ∀ i ∈ l, i < 64) : orA l < 18446744073709551616 := by
  induction l with
  | nil => simp [orA]
  | cons i l ih =>
    rw [orA]
    exact or_lt64 (Nat.pow_lt_pow_right (a := 2) (n := 64) (by omega) (h i (by simp))) (ih fun j hj => h j (by simp [hj]))
theorem orA_bsF {x : Nat} (h : x < 18446744073709551616) : orA (bsF x) = x := by
  apply Nat.eq_of_testBit_eq
  intro j
  rw [orA_bit]
  by_cases hj : j < 64
  · cases hx : x.testBit j <;> simp [bsF_mem, hj, hx]
  · have : x.testBit j = false := Nat.testBit_lt_two_pow (Nat.lt_of_lt_of_le h (show 2 ^ 64 ≤ 2 ^ j from Nat.pow_le_pow_right (by omega) (by omega)))
    rw [this]; simp [bsF_mem, hj]
end Go.Proofs.YtkknadkcpndnaaaDoor
