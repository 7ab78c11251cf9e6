/-
  Words of eight bytes and masks of them as plain facts; no statement is proved here.
-/
import GoSem.Core.View
namespace Go.Proofs.YtkknadkcpndnaaaDoor

/-- The byte number i of a word. -/
def byt (c i : Nat) : Nat := c / 2 ^ (8 * i) % 256
/-- The mask of the places below k that p tells. -/
def mk (p : Nat → Bool) : Nat → Nat
  | 0 => 0
  | k + 1 => mk p k + (if p k then 2 ^ k else 0)

theorem byt_lt (c i : Nat) : byt c i < 256 := Nat.mod_lt _ (by decide)
theorem byt_sr (c i : Nat) : byt c i = (c >>> (8 * i)) % 2 ^ 8 := by rw [Nat.shiftRight_eq_div_pow]; rfl
theorem byt_and (a b i : Nat) : byt (a &&& b) i = byt a i &&& byt b i := by
  rw [byt_sr, byt_sr, byt_sr, Nat.shiftRight_and_distrib, Nat.and_mod_two_pow]
theorem byt_or (a b i : Nat) : byt (a ||| b) i = byt a i ||| byt b i := by
  rw [byt_sr, byt_sr, byt_sr, Nat.shiftRight_or_distrib, Nat.or_mod_two_pow]
theorem byt_xor (a b i : Nat) : byt (a ^^^ b) i = byt a i ^^^ byt b i := by
  rw [byt_sr, byt_sr, byt_sr, Nat.shiftRight_xor_distrib, Nat.xor_mod_two_pow]
theorem at8 {Q : Nat → Prop} (h : Q 0 ∧ Q 1 ∧ Q 2 ∧ Q 3 ∧ Q 4 ∧ Q 5 ∧ Q 6 ∧ Q 7) : ∀ i, i < 8 → Q i := by
  obtain ⟨h0, h1, h2, h3, h4, h5, h6, h7⟩ := h
  intro i hi
  match i, hi with
  | 0, _ => exact h0
  | 1, _ => exact h1
  | 2, _ => exact h2
  | 3, _ => exact h3
  | 4, _ => exact h4
  | 5, _ => exact h5
  | 6, _ => exact h6
  | 7, _ => exact h7
theorem b0 (c : Nat) : byt c 0 = c % 256 := by unfold byt; simp
theorem b1 (c : Nat) : byt c 1 = c / 256 % 256 := rfl
theorem b2 (c : Nat) : byt c 2 = c / 65536 % 256 := rfl
theorem b3 (c : Nat) : byt c 3 = c / 16777216 % 256 := rfl
theorem b4 (c : Nat) : byt c 4 = c / 4294967296 % 256 := rfl
theorem b5 (c : Nat) : byt c 5 = c / 1099511627776 % 256 := rfl
theorem b6 (c : Nat) : byt c 6 = c / 281474976710656 % 256 := rfl
theorem b7 (c : Nat) : byt c 7 = c / 72057594037927936 % 256 := rfl
/-- Words of the same bytes are the same. -/
theorem byt_ext {x y : Nat} (hx : x < 18446744073709551616) (hy : y < 18446744073709551616) (h : ∀ i, i < 8 → byt x i = byt y i) : x = y := by
  have h0 := h 0 (by omega); have h1 := h 1 (by omega); have h2 := h 2 (by omega); have h3 := h 3 (by omega)
  have h4 := h 4 (by omega); have h5 := h 5 (by omega); have h6 := h 6 (by omega); have h7 := h 7 (by omega)
  rw [b0, b0] at h0; rw [b1, b1] at h1; rw [b2, b2] at h2; rw [b3, b3] at h3; rw [b4, b4] at h4; rw [b5, b5] at h5; rw [b6, b6] at h6; rw [b7, b7] at h7
  omega
theorem byt_ones' : ∀ h, h < 256 → ∀ i, i < 8 → byt (72340172838076673 * h) i = h := by decide +kernel
theorem byt_ones {h : Nat} (hh : h < 256) : ∀ i, i < 8 → byt (72340172838076673 * h) i = h := byt_ones' h hh
theorem byt_lows : ∀ i, i < 8 → byt 9187201950435737471 i = 127 := by decide +kernel
theorem byt_not {x : Nat} (hx : x < 18446744073709551616) : ∀ i, i < 8 → byt (18446744073709551615 - x) i = 255 - byt x i := by
  apply at8
  simp only [b0, b1, b2, b3, b4, b5, b6, b7]
  refine ⟨?_, ?_, ?_, ?_, ?_, ?_, ?_, ?_⟩ <;> omega
theorem byt_sum {x : Nat} (h : ∀ i, i < 8 → byt x i ≤ 127) : ∀ i, i < 8 → byt (x + 9187201950435737471) i = byt x i + 127 := by
  have h0 := h 0 (by omega); have h1 := h 1 (by omega); have h2 := h 2 (by omega); have h3 := h 3 (by omega)
  have h4 := h 4 (by omega); have h5 := h 5 (by omega); have h6 := h 6 (by omega); have h7 := h 7 (by omega)
  rw [b0] at h0; rw [b1] at h1; rw [b2] at h2; rw [b3] at h3; rw [b4] at h4; rw [b5] at h5; rw [b6] at h6; rw [b7] at h7
  apply at8
  simp only [b0, b1, b2, b3, b4, b5, b6, b7]
  refine ⟨?_, ?_, ?_, ?_, ?_, ?_, ?_, ?_⟩ <;> omega

/-! ### masks -/
theorem mk_lt (p : Nat → Bool) : ∀ k, mk p k < 2 ^ k
  | 0 => by simp [mk]
  | k + 1 => by
    have := mk_lt p k
    rw [mk, Nat.pow_succ]
    split <;> omega
theorem mk_or (p : Nat → Bool) (k : Nat) : mk p (k + 1) = mk p k ||| ((if p k then 1 else 0) <<< k) := by
  rw [Nat.or_comm, ← Nat.shiftLeft_add_eq_or_of_lt (mk_lt p k), mk]
  split <;> simp [Nat.shiftLeft_eq, Nat.add_comm]
theorem mk_bit (p : Nat → Bool) : ∀ k j, (mk p k).testBit j = (decide (j < k) && p j)
  | 0, j => by simp [mk]
  | k + 1, j => by
    rw [mk_or, Nat.testBit_or, mk_bit p k j, Nat.testBit_shiftLeft]
    rcases Nat.lt_trichotomy j k with q | q | q
    · have : ¬ k ≤ j := by omega
      have h2 : j < k + 1 := by omega
      simp [q, h2, this]
    · subst q
      cases p j <;> simp
    · have h1 : ¬ j < k := by omega
      have h2 : ¬ j < k + 1 := by omega
      have h3 : j - k ≠ 0 := by omega
      simp only [h1, h2, decide_false, Bool.false_and, Bool.false_or]
      cases p k
      · simp
      · have : Nat.testBit 1 (j - k) = false := by rw [show (1 : Nat) = 2 ^ 0 from rfl, Nat.testBit_two_pow_of_ne (by omega)]
        simp [this]
theorem mk_ext {p q : Nat → Bool} (h : ∀ i, i < 8 → p i = q i) : mk p 8 = mk q 8 := by
  apply Nat.eq_of_testBit_eq
  intro j
  rw [mk_bit, mk_bit]
  by_cases hj : j < 8
  · rw [h j hj]
  · simp [hj]
/-- The mask of highest bits. -/
def hi (c : Nat) : Nat := mk (fun i => decide (128 ≤ byt c i)) 8
/-- The word of which Match takes the highest bits. -/
def mw (c h : Nat) : Nat := 18446744073709551615 - ((((c ^^^ (72340172838076673 * h)) &&& 9187201950435737471) + 9187201950435737471) ||| (c ^^^ (72340172838076673 * h)))
def mt (c h : Nat) : Nat := mk (fun i => decide (byt c i = h)) 8
def fl (c : Nat) : Nat := mk (fun i => decide (byt c i < 128)) 8

theorem low7 : ∀ b, b < 256 → b &&& 127 ≤ 127 ∧ (decide (128 ≤ 255 - (((b &&& 127) + 127) ||| b)) = decide (b = 0)) := by decide +kernel
theorem xor_lt64 {a b : Nat} (ha : a < 18446744073709551616) (hb : b < 18446744073709551616) : a ^^^ b < 18446744073709551616 := Nat.xor_lt_two_pow (n := 64) ha hb
theorem and_lt64 {a b : Nat} (hb : b < 18446744073709551616) : a &&& b < 18446744073709551616 := Nat.and_lt_two_pow (n := 64) _ hb
theorem or_lt64 {a b : Nat} (ha : a < 18446744073709551616) (hb : b < 18446744073709551616) : a ||| b < 18446744073709551616 := Nat.or_lt_two_pow (n := 64) ha hb
theorem xor_zero' {a b : Nat} : a ^^^ b = 0 ↔ a = b := by
  constructor
  · intro h
    apply Nat.eq_of_testBit_eq
    intro i
    have := congrArg (fun n => n.testBit i) h
    simp only [Nat.testBit_xor, Nat.zero_testBit] at this
    revert this
    cases a.testBit i <;> cases b.testBit i <;> simp
  · rintro rfl; exact Nat.xor_self _
theorem sum_lt (c h : Nat) : ((c ^^^ (72340172838076673 * h)) &&& 9187201950435737471) + 9187201950435737471 < 18446744073709551616 := by
  have h1 : (c ^^^ (72340172838076673 * h)) &&& 9187201950435737471 ≤ 9187201950435737471 := Nat.and_le_right
  omega
theorem hi_mw {c h : Nat} (hc : c < 18446744073709551616) (hh : h < 256) : hi (mw c h) = mt c h := by
  apply mk_ext
  intro i hi
  have ho : c ^^^ (72340172838076673 * h) < 18446744073709551616 := xor_lt64 hc (by omega)
  have hb : ∀ i, i < 8 → byt ((c ^^^ (72340172838076673 * h)) &&& 9187201950435737471) i ≤ 127 := by
    intro j hj
    rw [byt_and, byt_lows j hj]
    exact (low7 _ (byt_lt _ _)).1
  have e : byt (mw c h) i = 255 - (((byt (c ^^^ (72340172838076673 * h)) i &&& 127) + 127) ||| byt (c ^^^ (72340172838076673 * h)) i) := by
    unfold mw
    rw [byt_not (or_lt64 (sum_lt c h) ho) i hi, byt_or, byt_sum hb i hi, byt_and, byt_lows i hi]
  show decide (128 ≤ byt (mw c h) i) = decide (byt c i = h)
  rw [e, (low7 _ (byt_lt _ _)).2, byt_xor, byt_ones hh i hi]
  exact decide_eq_decide.2 xor_zero'
theorem hi_not {c : Nat} (hc : c < 18446744073709551616) : hi (18446744073709551615 - c) = fl c := by
  apply mk_ext
  intro i hi
  show decide (128 ≤ byt _ i) = decide (byt c i < 128)
  rw [byt_not hc i hi]
  have := byt_lt c i
  exact decide_eq_decide.2 (by omega)
/-- A word with another byte. -/
def st (c i b : Nat) : Nat := (c &&& (18446744073709551615 - 255 * 2 ^ (8 * i))) ||| (b * 2 ^ (8 * i))
theorem byt_mul {b : Nat} (hb : b < 256) : ∀ i, i < 8 → ∀ j, j < 8 → byt (b * 2 ^ (8 * i)) j = if j = i then b else 0 := by
  apply at8
  refine ⟨?_, ?_, ?_, ?_, ?_, ?_, ?_, ?_⟩ <;> (apply at8; simp only [b0, b1, b2, b3, b4, b5, b6, b7]; refine ⟨?_, ?_, ?_, ?_, ?_, ?_, ?_, ?_⟩ <;> simp <;> omega)
theorem mul_lt64 {b : Nat} (hb : b < 256) : ∀ i, i < 8 → b * 2 ^ (8 * i) < 18446744073709551616 := by
  apply at8
  refine ⟨?_, ?_, ?_, ?_, ?_, ?_, ?_, ?_⟩ <;> simp <;> omega
theorem and255 : ∀ b, b < 256 → b &&& 255 = b ∧ b &&& 0 = 0 := by decide +kernel
theorem byt_st {c b : Nat} (hb : b < 256) {i : Nat} (hi : i < 8) {j : Nat} (hj : j < 8) : byt (st c i b) j = if j = i then b else byt c j := by
  unfold st
  rw [byt_or, byt_and, byt_not (mul_lt64 (b := 255) (by omega) i hi) j hj, byt_mul (b := 255) (by omega) i hi j hj, byt_mul hb i hi j hj]
  by_cases q : j = i
  · simp [q]
  · simp only [q, if_false]
    rw [show 255 - 0 = 255 from rfl, (and255 _ (byt_lt _ _)).1]
    simp
theorem st_lt {c b : Nat} (hc : c < 18446744073709551616) (hb : b < 256) {i : Nat} (hi : i < 8) : st c i b < 18446744073709551616 := by
  unfold st
  exact or_lt64 (Nat.lt_of_le_of_lt Nat.and_le_left hc) (mul_lt64 hb i hi)
end Go.Proofs.YtkknadkcpndnaaaDoor
