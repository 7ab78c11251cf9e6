/-
  Which words of floats are equal: plain facts; no statement is proved here.
-/
import GoSem.Op.Equal
namespace Go.Proofs.Ytdedehfeekpioaa

/-- The magnitude of a rung of 64-bit floats, in the least units. -/
def magV (r : Nat) : Nat := if r < 2 ^ 52 then r else (2 ^ 52 + r % 2 ^ 52) * 2 ^ (r / 2 ^ 52 - 1)

theorem mag_lo {r e : Nat} (h : r / 2 ^ 52 = e + 1) : 2 ^ 52 * 2 ^ e ≤ magV r ∧ magV r < 2 ^ 52 * 2 ^ (e + 1) := by
  have hm : r % 2 ^ 52 < 2 ^ 52 := Nat.mod_lt _ (by decide)
  have h1 : ¬ r < 2 ^ 52 := fun q => by rw [Nat.div_eq_of_lt q] at h; omega
  unfold magV
  rw [if_neg h1, h, Nat.add_sub_cancel]
  refine ⟨Nat.mul_le_mul_right _ (by omega), ?_⟩
  rw [show (2 : Nat) ^ (e + 1) = 2 * 2 ^ e by rw [Nat.pow_succ]; omega, ← Nat.mul_assoc]
  exact Nat.mul_lt_mul_of_pos_right (by omega) (Nat.two_pow_pos e)
theorem mag_small {r : Nat} (h : r / 2 ^ 52 = 0) : magV r = r ∧ r < 2 ^ 52 := by
  have h1 : r < 2 ^ 52 := by
    rcases Nat.lt_or_ge r (2 ^ 52) with q | q
    · exact q
    · have := Nat.div_pos q (by decide); omega
  unfold magV; rw [if_pos h1]; exact ⟨rfl, h1⟩
theorem mag_inj {r s : Nat} (h : magV r = magV s) : r = s := by
  have key : ∀ r s : Nat, r / 2 ^ 52 < s / 2 ^ 52 → magV r < magV s := by
    intro r s hrs
    obtain ⟨e, he⟩ : ∃ e, s / 2 ^ 52 = e + 1 := ⟨s / 2 ^ 52 - 1, by omega⟩
    have h2 := (mag_lo he).1
    rcases Nat.eq_zero_or_pos (r / 2 ^ 52) with q | q
    · obtain ⟨h3, h4⟩ := mag_small q
      have : 2 ^ 52 * 1 ≤ 2 ^ 52 * 2 ^ e := Nat.mul_le_mul_left _ (Nat.two_pow_pos e)
      omega
    · obtain ⟨d, hd⟩ : ∃ d, r / 2 ^ 52 = d + 1 := ⟨r / 2 ^ 52 - 1, by omega⟩
      have h3 := (mag_lo hd).2
      have : 2 ^ 52 * 2 ^ (d + 1) ≤ 2 ^ 52 * 2 ^ e := Nat.mul_le_mul_left _ (Nat.pow_le_pow_right (by decide) (by omega))
      omega
  rcases Nat.lt_trichotomy (r / 2 ^ 52) (s / 2 ^ 52) with q | q | q
  · have := key r s q; omega
  · rcases Nat.eq_zero_or_pos (r / 2 ^ 52) with p | p
    · have h1 := (mag_small p).1
      have h2 := (mag_small (r := s) (by omega)).1
      omega
    · have h1 : ¬ r < 2 ^ 52 := fun x => by rw [Nat.div_eq_of_lt x] at p; omega
      have h2 : ¬ s < 2 ^ 52 := fun x => by rw [Nat.div_eq_of_lt x] at q; omega
      unfold magV at h
      rw [if_neg h1, if_neg h2, q] at h
      have h3 := Nat.eq_of_mul_eq_mul_right (Nat.two_pow_pos _) h
      have e1 := Nat.div_add_mod r (2 ^ 52)
      have e2 := Nat.div_add_mod s (2 ^ 52)
      rw [q] at e1
      omega
  · have := key s r q; omega

def rungOf (x : Nat) : Nat := x % 2 ^ 63
def negOf (x : Nat) : Bool := x / 2 ^ 63 % 2 == 1
def infR : Nat := 2047 * 2 ^ 52

theorem read_eq (x : Nat) : Ieee.double.read x = if rungOf x < 2 ^ 52 then .number (negOf x) (rungOf x) (-1074) else if rungOf x < infR then .number (negOf x) (2 ^ 52 + rungOf x % 2 ^ 52) (-1074 + ((rungOf x / 2 ^ 52 - 1 : Nat) : Int)) else if rungOf x = infR then .infinity (negOf x) else .nan (negOf x) (rungOf x - infR) := rfl

/-- Neither is a nan, and they are the same or both zero. -/
def Feq (x y : Nat) : Prop := rungOf x ≤ infR ∧ rungOf y ≤ infR ∧ ((rungOf x = rungOf y ∧ negOf x = negOf y) ∨ (rungOf x = 0 ∧ rungOf y = 0))

theorem num_eq (x : Nat) (h : rungOf x < infR) : ∃ (m : Nat) (k : Nat), Ieee.double.read x = .number (negOf x) m (-1074 + (k : Int)) ∧ m * 2 ^ k = magV (rungOf x) := by
  rw [read_eq]
  by_cases h1 : rungOf x < 2 ^ 52
  · rw [if_pos h1]
    exact ⟨rungOf x, 0, rfl, by unfold magV; rw [if_pos h1]; simp⟩
  · rw [if_neg h1, if_pos h]
    exact ⟨_, _, rfl, by unfold magV; rw [if_neg h1]⟩

theorem signed_eq (s : Bool) (m k : Nat) : Ieee.signed s m k = (if s then -((m * 2 ^ k : Nat) : Int) else ((m * 2 ^ k : Nat) : Int)) := by
  unfold Ieee.signed
  rw [Nat.shiftLeft_eq]


theorem shift_up (m k b : Nat) (h : b ≤ k) : m * 2 ^ (k - b) * 2 ^ b = m * 2 ^ k := by
  rw [Nat.mul_assoc, ← Nat.pow_add, Nat.sub_add_cancel h]

theorem cmp_eq (a b : Int) : (some (compare a b) == some Ordering.eq) = decide (a = b) := by
  by_cases h : a = b
  · subst h; simp
  · have : compare a b ≠ .eq := fun q => h (Int.compare_eq_eq.1 q)
    simp [h, this]

theorem feq_iff (x y : Nat) : Go.Op.floatEq .f64 x y = true ↔ Feq x y := by
  show ((Ieee.double.read x).order (Ieee.double.read y) == some .eq) = true ↔ _
  have nanx : ∀ z, ¬ rungOf z ≤ infR → ∃ n f, Ieee.double.read z = .nan n f := fun z hz => by
    rw [read_eq, if_neg (by unfold infR at hz; omega), if_neg (by omega), if_neg (by omega)]
    exact ⟨_, _, rfl⟩
  have infx : ∀ z, rungOf z = infR → Ieee.double.read z = .infinity (negOf z) := fun z hz => by
    rw [read_eq, if_neg (by unfold infR at hz; omega), if_neg (by omega), if_pos hz]
  unfold Feq
  by_cases hx : rungOf x ≤ infR
  · by_cases hy : rungOf y ≤ infR
    · rcases Nat.lt_or_eq_of_le hx with qx | qx
      · obtain ⟨m, k, ex, vx⟩ := num_eq x qx
        rcases Nat.lt_or_eq_of_le hy with qy | qy
        · obtain ⟨n, l, ey, vy⟩ := num_eq y qy
          rw [ex, ey]
          simp only [Ieee.Datum.order]
          rw [cmp_eq, decide_eq_true_iff, signed_eq, signed_eq]
          obtain ⟨b, hb, hbk, hbl⟩ : ∃ b : Nat, min (-1074 + (k : Int)) (-1074 + (l : Int)) = -1074 + (b : Int) ∧ b ≤ k ∧ b ≤ l := ⟨min k l, by omega, by omega, by omega⟩
          rw [hb, show (-1074 + (k : Int) - (-1074 + (b : Int))).toNat = k - b by omega, show (-1074 + (l : Int) - (-1074 + (b : Int))).toNat = l - b by omega]
          have e1 := shift_up m k b hbk
          have e2 := shift_up n l b hbl
          rw [vx] at e1
          rw [vy] at e2
          have hz : ∀ {p q r : Nat}, p * 2 ^ b = q → (p = 0 ↔ q = 0) := fun {p q r} h => by
            rw [← h]
            have := Nat.two_pow_pos b
            constructor
            · intro h0; rw [h0]; simp
            · intro h0; rcases Nat.mul_eq_zero.1 h0 with r | r
              · exact r
              · omega
          have hm0 : ∀ r, magV r = 0 ↔ r = 0 := fun r => by
            constructor
            · intro h0
              apply mag_inj
              rw [h0]; rfl
            · intro h0; subst h0; rfl
          have hpp : m * 2 ^ (k - b) = n * 2 ^ (l - b) ↔ rungOf x = rungOf y := by
            constructor
            · intro h0
              apply mag_inj
              rw [← e1, ← e2, h0]
            · intro h0
              rw [h0, ← e2] at e1
              exact Nat.eq_of_mul_eq_mul_right (Nat.two_pow_pos b) e1
          have zx : m * 2 ^ (k - b) = 0 ↔ rungOf x = 0 := (hz (r := 0) e1).trans (hm0 _)
          have zy : n * 2 ^ (l - b) = 0 ↔ rungOf y = 0 := (hz (r := 0) e2).trans (hm0 _)
          generalize m * 2 ^ (k - b) = P at *
          generalize n * 2 ^ (l - b) = Q at *
          cases negOf x <;> cases negOf y <;> simp <;> omega
        · rw [ex, infx y qy]
          simp only [Ieee.Datum.order]
          have h0 : infR ≠ 0 := by decide
          constructor
          · intro h; split at h <;> cases h
          · intro h; omega
      · rcases Nat.lt_or_eq_of_le hy with qy | qy
        · obtain ⟨n, l, ey, vy⟩ := num_eq y qy
          rw [ey, infx x qx]
          simp only [Ieee.Datum.order]
          have h0 : infR ≠ 0 := by decide
          constructor
          · intro h; split at h <;> cases h
          · intro h; omega
        · rw [infx x qx, infx y qy]
          simp only [Ieee.Datum.order]
          have h0 : infR ≠ 0 := by decide
          rw [qx, qy]
          cases negOf x <;> cases negOf y <;> simp [h0] <;> decide
    · obtain ⟨n, f, e⟩ := nanx y hy
      rw [e]
      constructor
      · intro h
        cases hr : Ieee.double.read x <;> rw [hr] at h <;> cases h
      · intro h; exact absurd h.2.1 hy
  · obtain ⟨n, f, e⟩ := nanx x hx
    rw [e]
    constructor
    · intro h
      cases hr : Ieee.double.read y <;> rw [hr] at h <;> cases h
    · intro h; exact absurd h.1 hx

theorem feq_symm (x y : Nat) : Go.Op.floatEq .f64 x y = Go.Op.floatEq .f64 y x := by
  rw [Bool.eq_iff_iff, feq_iff, feq_iff]
  unfold Feq
  constructor <;> (rintro ⟨h1, h2, h3⟩; exact ⟨h2, h1, h3.imp (fun q => ⟨q.1.symm, q.2.symm⟩) (fun q => ⟨q.2, q.1⟩)⟩)
theorem feq_trans {x y z : Nat} (h1 : Go.Op.floatEq .f64 x y = true) (h2 : Go.Op.floatEq .f64 y z = true) : Go.Op.floatEq .f64 x z = true := by
  rw [feq_iff] at *
  obtain ⟨a1, a2, a3⟩ := h1
  obtain ⟨b1, b2, b3⟩ := h2
  refine ⟨a1, b2, ?_⟩
  rcases a3 with ⟨p, q⟩ | ⟨p, q⟩ <;> rcases b3 with ⟨r, s⟩ | ⟨r, s⟩
  · exact .inl ⟨p.trans r, q.trans s⟩
  · exact .inr ⟨p.trans r, s⟩
  · exact .inr ⟨p, r.symm.trans q⟩
  · exact .inr ⟨p, s⟩
theorem word_of {x : Nat} (h : x < 2 ^ 64) : x = (if negOf x then 2 ^ 63 else 0) + rungOf x := by
  unfold negOf rungOf
  have h1 := Nat.div_add_mod x (2 ^ 63)
  have h2 : x / 2 ^ 63 < 2 := Nat.div_lt_of_lt_mul (by omega)
  generalize x / 2 ^ 63 = d at *
  obtain rfl | rfl : d = 0 ∨ d = 1 := by omega
  · simp at h1 ⊢; omega
  · simp at h1 ⊢; omega
/-- Equal words are the same, or both zero. -/
theorem feq_bits {x y : Nat} (hx : x < 2 ^ 64) (hy : y < 2 ^ 64) (h : Go.Op.floatEq .f64 x y = true) : x = y ∨ (rungOf x = 0 ∧ rungOf y = 0) := by
  rw [feq_iff] at h
  rcases h.2.2 with ⟨p, q⟩ | q
  · left; rw [word_of hx, word_of hy, p, q]
  · exact .inr q
theorem feq_zero (x : Nat) : Go.Op.floatEq .f64 x 0 = true ↔ rungOf x = 0 := by
  rw [feq_iff]
  unfold Feq
  have h0 : rungOf 0 = 0 := rfl
  have h1 : infR = 2047 * 2 ^ 52 := rfl
  rw [h0]
  constructor
  · rintro ⟨_, _, ⟨p, _⟩ | ⟨p, _⟩⟩ <;> exact p
  · intro h; refine ⟨by omega, by omega, .inr ⟨h, rfl⟩⟩
theorem feq_self (x : Nat) : Go.Op.floatEq .f64 x x = true ↔ rungOf x ≤ infR := by
  rw [feq_iff]
  unfold Feq
  constructor
  · exact fun h => h.1
  · exact fun h => ⟨h, h, .inl ⟨rfl, rfl⟩⟩

end Go.Proofs.Ytdedehfeekpioaa
