/-
  Plain facts behind OpsLaws; no statement is proved here.
-/
import Derived.Test.YtdedehfeekpioaaRMath
namespace Go.Proofs.Ytdedehfeekpioaa

theorem nat_and_or : ∀ (n x y : Nat), x ≤ n → (x &&& y) + (x ||| y) = x + y
  | n, x, y, h => by
    rcases Nat.eq_zero_or_pos x with rfl | hx
    · simp
    · match n, h with
      | 0, h => omega
      | n + 1, h =>
        have ih := nat_and_or n (x / 2) (y / 2) (by omega)
        have e1 := Nat.div_add_mod (x &&& y) 2
        have e2 := Nat.div_add_mod (x ||| y) 2
        have e3 := Nat.div_add_mod x 2
        have e4 := Nat.div_add_mod y 2
        rw [Nat.and_div_two] at e1
        rw [Nat.or_div_two] at e2
        have m1 : (x &&& y) % 2 + (x ||| y) % 2 = x % 2 + y % 2 := by
          have a1 := Nat.and_mod_two_pow (a := x) (b := y) (n := 1)
          have a2 := Nat.or_mod_two_pow (a := x) (b := y) (n := 1)
          simp only [Nat.pow_one] at a1 a2
          rw [a1, a2]
          rcases Nat.mod_two_eq_zero_or_one x with p | p <;> rcases Nat.mod_two_eq_zero_or_one y with q | q <;> rw [p, q] <;> decide
        omega
theorem nat_xor_and : ∀ (n x y : Nat), x ≤ n → (x ^^^ y) + (x &&& y) = (x ||| y)
  | n, x, y, h => by
    rcases Nat.eq_zero_or_pos x with rfl | hx
    · simp
    · match n, h with
      | 0, h => omega
      | n + 1, h =>
        have ih := nat_xor_and n (x / 2) (y / 2) (by omega)
        have e1 := Nat.div_add_mod (x &&& y) 2
        have e2 := Nat.div_add_mod (x ||| y) 2
        have e3 := Nat.div_add_mod (x ^^^ y) 2
        rw [Nat.and_div_two] at e1
        rw [Nat.or_div_two] at e2
        rw [Nat.xor_div_two] at e3
        have m1 : (x ^^^ y) % 2 + (x &&& y) % 2 = (x ||| y) % 2 := by
          have a1 := Nat.and_mod_two_pow (a := x) (b := y) (n := 1)
          have a2 := Nat.or_mod_two_pow (a := x) (b := y) (n := 1)
          have a3 := Nat.xor_mod_two_pow (a := x) (b := y) (n := 1)
          simp only [Nat.pow_one] at a1 a2 a3
          rw [a1, a2, a3]
          rcases Nat.mod_two_eq_zero_or_one x with p | p <;> rcases Nat.mod_two_eq_zero_or_one y with q | q <;> rw [p, q] <;> decide
        omega

variable {a b c : Int}
theorem l_div (ha : U a) : ai 1 (ai 3 (ai 4 a b) b) (ai 5 a b) = a := by
  show um (um (um ((sg a).tdiv (sg b)) * b) + um ((sg a).tmod (sg b))) = a
  rw [um_mull, um_add, ← um_addl, ← um_sgmr, um_addl, Int.mul_comm, Int.mul_tdiv_add_tmod, um_sg, um_id ha]
theorem l_comm : ai 1 a b = ai 1 b a := by
  show um _ = um _
  rw [Int.add_comm]
theorem l_dist : ai 3 a (ai 1 b c) = ai 1 (ai 3 a b) (ai 3 a c) := by
  show um (a * um (b + c)) = um (um (a * b) + um (a * c))
  rw [um_mulr, um_add, Int.mul_add]
theorem l_sub : ai 2 a b = ai 1 a (ai 2 0 b) := by
  show um (a - b) = um (a + um (0 - b))
  rw [um_addr]
  congr 1
  omega
theorem l_bits : ai 1 (ai 6 a b) (ai 7 a b) = ai 1 a b := by
  show um (bAnd a b + bOr a b) = um (a + b)
  unfold bAnd bOr
  rw [BitVec.toNat_and, BitVec.toNat_or]
  have h := nat_and_or _ (BitVec.ofInt 64 a).toNat (BitVec.ofInt 64 b).toNat (Nat.le_refl _)
  have h2 : (((BitVec.ofInt 64 a).toNat &&& (BitVec.ofInt 64 b).toNat : Nat) : Int) + (((BitVec.ofInt 64 a).toNat ||| (BitVec.ofInt 64 b).toNat : Nat) : Int) = ((BitVec.ofInt 64 a).toNat : Int) + ((BitVec.ofInt 64 b).toNat : Int) := by omega
  rw [h2]
  have e : ∀ x : Int, ((BitVec.ofInt 64 x).toNat : Int) = um x := fun x => by
    rw [BitVec.toNat_ofInt]
    unfold um
    omega
  rw [e, e, um_add]
theorem l_xor : ai 8 a b = ai 2 (ai 7 a b) (ai 6 a b) := by
  show bXor a b = um (bOr a b - bAnd a b)
  have hU : U (bXor a b) := nat_U _
  rw [← um_id hU]
  congr 1
  unfold bAnd bOr bXor
  rw [BitVec.toNat_and, BitVec.toNat_or, BitVec.toNat_xor]
  have h := nat_xor_and _ (BitVec.ofInt 64 a).toNat (BitVec.ofInt 64 b).toNat (Nat.le_refl _)
  omega
theorem l_shl : ai 9 a c = ai 3 a (ai 9 1 c) := by
  show um (a * 2 ^ (c % 64).toNat) = um (a * um (1 * 2 ^ (c % 64).toNat))
  rw [um_mulr, Int.one_mul]
theorem l_wrap : ai 9 a c = ai 9 a (um (c + 64)) := by
  show um (a * 2 ^ (c % 64).toNat) = um (a * 2 ^ (um (c + 64) % 64).toNat)
  have : um (c + 64) % 64 = c % 64 := by unfold um; omega
  rw [this]
theorem l_shr (ha : U a) : ai 10 (ai 10 a 1) 1 = ai 10 a 2 := by
  show um ((sg (um ((sg a).fdiv (2 ^ ((1 : Int) % 64).toNat)))).fdiv (2 ^ ((1 : Int) % 64).toNat)) = um ((sg a).fdiv (2 ^ ((2 : Int) % 64).toNat))
  rw [sg_um_id (fdiv_range (sg_range ha))]
  congr 1
  rw [show (2 : Int) ^ ((1 : Int) % 64).toNat = 2 from rfl, show (2 : Int) ^ ((2 : Int) % 64).toNat = 4 from rfl]
  rw [Int.fdiv_eq_ediv_of_nonneg _ (by omega), Int.fdiv_eq_ediv_of_nonneg _ (by omega), Int.fdiv_eq_ediv_of_nonneg _ (by omega)]
  omega
theorem l_lt (a b : Int) : ai 11 a b = if sg a < sg b then 1 else 0 := rfl
end Go.Proofs.Ytdedehfeekpioaa
