/-
  Sound tables, byte by byte; no statement is proved here.
-/
import Derived.Test.YtkknadkcpndnaaaDoorTIns
import Derived.Test.YtkknadkcpndnaaaDoorDel
namespace Go.Proofs.YtkknadkcpndnaaaDoor
open Pr (Gp GpI sq pl)

/-! ### counting in a group -/
def cnt (p : Nat → Bool) : Nat := ((List.range 8).filter p).length
theorem flen (p : Nat → Bool) (x : Nat) (l : List Nat) : ((x :: l).filter p).length = (if p x then 1 else 0) + (l.filter p).length := by
  rw [List.filter_cons]
  split <;> simp [Nat.add_comm]
theorem cnt_eq (p : Nat → Bool) : cnt p = (if p 0 then 1 else 0) + (if p 1 then 1 else 0) + (if p 2 then 1 else 0) + (if p 3 then 1 else 0) + (if p 4 then 1 else 0) + (if p 5 then 1 else 0) + (if p 6 then 1 else 0) + (if p 7 then 1 else 0) := by
  unfold cnt
  rw [show List.range 8 = [0, 1, 2, 3, 4, 5, 6, 7] from rfl]
  rw [flen, flen, flen, flen, flen, flen, flen, flen]
  simp only [List.filter_nil, List.length_nil, Nat.add_zero, Nat.add_assoc]
theorem cnt_congr {p q : Nat → Bool} (h : ∀ i, i < 8 → p i = q i) : cnt p = cnt q := by
  unfold cnt
  rw [List.filter_congr fun i hi => h i (by simpa using hi)]
theorem cnt_flip {p q : Nat → Bool} {i : Nat} (hi : i < 8) (h : ∀ j, j < 8 → j ≠ i → q j = p j) (hp : p i = false) (hq : q i = true) : cnt q = cnt p + 1 := by
  rw [cnt_eq, cnt_eq]
  have h0 := h 0 (by omega); have h1 := h 1 (by omega); have h2 := h 2 (by omega); have h3 := h 3 (by omega)
  have h4 := h 4 (by omega); have h5 := h 5 (by omega); have h6 := h 6 (by omega); have h7 := h 7 (by omega)
  rcases (by omega : i = 0 ∨ i = 1 ∨ i = 2 ∨ i = 3 ∨ i = 4 ∨ i = 5 ∨ i = 6 ∨ i = 7) with rfl | rfl | rfl | rfl | rfl | rfl | rfl | rfl
  all_goals
    try rw [h0 (by omega)]
    try rw [h1 (by omega)]
    try rw [h2 (by omega)]
    try rw [h3 (by omega)]
    try rw [h4 (by omega)]
    try rw [h5 (by omega)]
    try rw [h6 (by omega)]
    try rw [h7 (by omega)]
    rw [hp, hq]
    simp only [if_true, Bool.false_eq_true, if_false]
    try omega
theorem pc_mk (p : Nat → Bool) : pc (mk p 8) = cnt p := by
  unfold pc cnt
  congr 1
  apply List.filter_congr
  intro i hi
  rw [mk_testBit]
  simp at hi
  simp [hi]
theorem mk_orr (p q : Nat → Bool) : mk p 8 ||| mk q 8 = mk (fun i => p i || q i) 8 := by
  apply Nat.eq_of_testBit_eq
  intro i
  rw [Nat.testBit_or, mk_testBit, mk_testBit, mk_testBit]
  cases decide (i < 8) <;> simp
theorem mk_zero {p : Nat → Bool} : mk p 8 = 0 ↔ ∀ i, i < 8 → p i = false := by
  constructor
  · intro h i hi
    have := mk_testBit p 8 i
    rw [h] at this
    simp only [hi, decide_true, Bool.true_and, Nat.zero_testBit] at this
    exact this.symm
  · intro h
    apply Nat.eq_of_testBit_eq
    intro i
    rw [mk_testBit]
    by_cases hi : i < 8
    · simp [h i hi]
    · simp [hi]
theorem mk_full {p : Nat → Bool} : mk p 8 = 255 ↔ ∀ i, i < 8 → p i = true := by
  constructor
  · intro h i hi
    have := mk_testBit p 8 i
    rw [h] at this
    have h2 : (255 : Nat).testBit i = true := by
      rcases (by omega : i = 0 ∨ i = 1 ∨ i = 2 ∨ i = 3 ∨ i = 4 ∨ i = 5 ∨ i = 6 ∨ i = 7) with rfl | rfl | rfl | rfl | rfl | rfl | rfl | rfl <;> rfl
    rw [h2] at this
    simp only [hi, decide_true, Bool.true_and] at this
    exact this.symm
  · intro h
    have e : (255 : Nat) = mk (fun _ => true) 8 := by decide
    rw [e]
    apply Nat.eq_of_testBit_eq
    intro i
    rw [mk_testBit, mk_testBit]
    by_cases hi : i < 8
    · simp [h i hi]
    · simp [hi]

/-! ### a table's bytes -/
def bt (T : List Nat) (g i : Nat) : Nat := byt (cw T g) i
theorem mt_zero {c x : Nat} : mt c x = 0 ↔ ∀ i, i < 8 → byt c i ≠ x := by
  unfold mt
  rw [mk_zero]
  simp
theorem hasE_iff {T : List Nat} {g : Nat} : hasE T g = false ↔ ∀ i, i < 8 → bt T g i ≠ 128 := by
  unfold hasE
  rw [decide_eq_false_iff_not, Classical.not_not, mt_zero]
  rfl
theorem opn_eq (T : List Nat) (g : Nat) : opn T g = (List.range 8).filter fun i => decide (bt T g i = 128) || decide (bt T g i = 254) := by
  unfold opn mt
  rw [mk_orr, bsF_mk]
  rfl
theorem scB_iff {c : Nat} : scB c = true ↔ (∀ i, i < 8 → byt c i < 128 ∨ byt c i = 128 ∨ byt c i = 254) ∧ ((∀ i, i < 8 → byt c i ≠ 128) ∨ (∀ i, i < 8 → byt c i ≠ 254)) := by
  unfold scB
  rw [Bool.and_eq_true, Bool.or_eq_true, decide_eq_true_iff, decide_eq_true_iff, decide_eq_true_iff, mt_zero, mt_zero]
  have e : (fl c ||| (mt c 128 ||| mt c 254)) = mk (fun i => decide (byt c i < 128) || (decide (byt c i = 128) || decide (byt c i = 254))) 8 := by
    unfold fl mt
    rw [mk_orr, mk_orr]
  rw [e, mk_full]
  simp
theorem fl_bit {c i : Nat} (hi : i < 8) : (fl c).testBit i = decide (byt c i < 128) := by
  unfold fl
  rw [mk_testBit]
  simp [hi]
theorem ssB_iff {T : List Nat} {g : Nat} : ssB T g = true ↔ ∀ i, i < 8 → (bt T g i < 128 → bt T g i = hsw T g i % 128) ∧ (128 ≤ bt T g i → hsw T g i = 0 ∧ idw T g i = 0) := by
  unfold ssB
  rw [List.all_eq_true]
  constructor
  · intro h i hi
    have := h i (by simpa using hi)
    unfold slB at this
    rw [fl_bit hi] at this
    by_cases q : byt (cw T g) i < 128
    · simp only [q, decide_true, if_true, decide_eq_true_eq] at this
      exact ⟨fun _ => this, fun h => by unfold bt at h; omega⟩
    · simp only [q, decide_false, Bool.false_eq_true, if_false, Bool.and_eq_true, decide_eq_true_eq] at this
      exact ⟨fun h => absurd h q, fun _ => this⟩
  · intro h i hi
    have hi8 : i < 8 := by simpa using hi
    obtain ⟨h1, h2⟩ := h i hi8
    unfold slB
    rw [fl_bit hi8]
    by_cases q : byt (cw T g) i < 128
    · simp only [q, decide_true, if_true, decide_eq_true_eq]
      exact h1 q
    · simp only [q, decide_false, Bool.false_eq_true, if_false, Bool.and_eq_true, decide_eq_true_eq]
      exact h2 (by unfold bt; omega)
theorem pc_fl (c : Nat) : pc (fl c) = cnt fun i => decide (byt c i < 128) := pc_mk _
theorem pc_us (c : Nat) : pc (fl c ||| mt c 254) = cnt fun i => decide (byt c i < 128) || decide (byt c i = 254) := by
  unfold fl mt
  rw [mk_orr, pc_mk]
end Go.Proofs.YtkknadkcpndnaaaDoor
