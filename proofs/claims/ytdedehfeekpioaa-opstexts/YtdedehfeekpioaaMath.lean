/-
  Whole numbers of 64 bits as plain facts; no statement is proved here.
-/
import GoSem.Core.View
namespace Go.Proofs.Ytdedehfeekpioaa

/-- A number of 64 bits. -/
def U (n : Int) : Prop := 0 ≤ n ∧ n < 18446744073709551616
/-- It as a number with a sign. -/
def sg (n : Int) : Int := if n < 9223372036854775808 then n else n - 18446744073709551616
def um (n : Int) : Int := n % 18446744073709551616

theorem um_U (n : Int) : U (um n) := by unfold U um; omega
theorem um_id {n : Int} (h : U n) : um n = n := by unfold U at h; unfold um; omega
theorem wrapU (n : Int) : IntKind.wrap .u64 n = um n := by
  unfold IntKind.wrap um
  simp [IntKind.signed, IntKind.bits]
theorem wrapS (n : Int) : IntKind.wrap .i64 n = sg (um n) := by
  show (let m := n % (2 ^ 64 : Int); if (true && decide (m ≥ (2 ^ 63 : Int))) = true then m - (2 ^ 64 : Int) else m) = _
  have e1 : (2 : Int) ^ 64 = 18446744073709551616 := by decide
  have e2 : (2 : Int) ^ 63 = 9223372036854775808 := by decide
  simp only [e1, e2, Bool.true_and, decide_eq_true_eq, ge_iff_le]
  unfold sg um
  split <;> split <;> omega
theorem sg_um {n : Int} (h : U n) : sg (um n) = sg n := by rw [um_id h]
theorem um_sg (n : Int) : um (sg n) = um n := by unfold um sg; split <;> omega
theorem sg_range {n : Int} (h : U n) : -9223372036854775808 ≤ sg n ∧ sg n < 9223372036854775808 := by unfold U at h; unfold sg; split <;> omega
theorem sg_um_id {n : Int} (h : -9223372036854775808 ≤ n ∧ n < 9223372036854775808) : sg (um n) = n := by unfold sg um; split <;> omega
theorem sg_inj {a b : Int} (ha : U a) (hb : U b) (h : sg a = sg b) : a = b := by unfold U at *; unfold sg at h; split at h <;> split at h <;> omega
theorem sg_zero {a : Int} (ha : U a) : sg a = 0 ↔ a = 0 := by unfold U at ha; unfold sg; split <;> omega

/-- Bits of two numbers. -/
def bAnd (a b : Int) : Int := ((BitVec.ofInt 64 a &&& BitVec.ofInt 64 b).toNat : Int)
def bOr (a b : Int) : Int := ((BitVec.ofInt 64 a ||| BitVec.ofInt 64 b).toNat : Int)
def bXor (a b : Int) : Int := ((BitVec.ofInt 64 a ^^^ BitVec.ofInt 64 b).toNat : Int)
theorem nat_U (x : BitVec 64) : U (x.toNat : Int) := by
  have := x.isLt
  unfold U
  omega

/-- What a way of whole numbers makes of two. -/
def ai (way : Nat) (a b : Int) : Int :=
  match way with
  | 1 => um (a + b)
  | 2 => um (a - b)
  | 3 => um (a * b)
  | 4 => um ((sg a).tdiv (sg b))
  | 5 => um ((sg a).tmod (sg b))
  | 6 => bAnd a b
  | 7 => bOr a b
  | 8 => bXor a b
  | 9 => um (a * 2 ^ (b % 64).toNat)
  | 10 => um ((sg a).fdiv (2 ^ (b % 64).toNat))
  | _ => if sg a < sg b then 1 else 0
theorem ai_U (way : Nat) (a b : Int) : U (ai way a b) := by
  unfold ai
  split <;> first | exact um_U _ | exact nat_U _ | (split <;> (unfold U; omega))

/-! ### the program's words -/
theorem ofInt_um (a : Int) : BitVec.ofInt 64 (um a) = BitVec.ofInt 64 a := by
  apply BitVec.eq_of_toInt_eq
  rw [BitVec.toInt_ofInt, BitVec.toInt_ofInt]
  unfold um
  exact Int.emod_bmod ..
theorem ofInt_sg (a : Int) : BitVec.ofInt 64 (sg a) = BitVec.ofInt 64 a := by
  rw [← ofInt_um (sg a), um_sg, ofInt_um]
theorem um_congr {a b : Int} (h : ∃ k, a = b + 18446744073709551616 * k) : um a = um b := by
  obtain ⟨k, rfl⟩ := h
  unfold um
  rw [Int.add_mul_emod_self_left]
theorem um_add (a b : Int) : um (um a + um b) = um (a + b) := by unfold um; exact (Int.add_emod ..).symm
theorem um_sub (a b : Int) : um (um a - um b) = um (a - b) := by unfold um; exact (Int.sub_emod ..).symm
theorem um_mul (a b : Int) : um (um a * um b) = um (a * b) := by unfold um; exact (Int.mul_emod ..).symm
theorem um_um (a : Int) : um (um a) = um a := um_id (um_U a)
theorem um_addl (a b : Int) : um (um a + b) = um (a + b) := by rw [← um_add (um a) b, um_um, um_add]
theorem um_addr (a b : Int) : um (a + um b) = um (a + b) := by rw [← um_add a (um b), um_um, um_add]
theorem um_mull (a b : Int) : um (um a * b) = um (a * b) := by rw [← um_mul (um a) b, um_um, um_mul]
theorem um_mulr (a b : Int) : um (a * um b) = um (a * b) := by rw [← um_mul a (um b), um_um, um_mul]
theorem um_subr (a b : Int) : um (a - um b) = um (a - b) := by rw [← um_sub a (um b), um_um, um_sub]
theorem um_subl (a b : Int) : um (um a - b) = um (a - b) := by rw [← um_sub (um a) b, um_um, um_sub]
theorem um_sgl (a b : Int) : um (sg a + b) = um (a + b) := by rw [← um_addl (sg a), um_sg, um_addl]
theorem um_sgr (a b : Int) : um (a + sg b) = um (a + b) := by rw [← um_addr a (sg b), um_sg, um_addr]
theorem um_sgml (a b : Int) : um (sg a * b) = um (a * b) := by rw [← um_mull (sg a), um_sg, um_mull]
theorem um_sgmr (a b : Int) : um (a * sg b) = um (a * b) := by rw [← um_mulr a (sg b), um_sg, um_mulr]
theorem um_sgsr (a b : Int) : um (a - sg b) = um (a - b) := by rw [← um_subr a (sg b), um_sg, um_subr]

theorem tmod_range {a b : Int} (ha : -9223372036854775808 ≤ a ∧ a < 9223372036854775808) : -9223372036854775808 ≤ a.tmod b ∧ a.tmod b < 9223372036854775808 := by
  have h := Int.natAbs_tmod a b
  have h2 : a.natAbs % b.natAbs ≤ a.natAbs := Nat.mod_le _ _
  rcases Int.le_total 0 a with q | q
  · have := Int.tmod_nonneg b q
    omega
  · have : a.tmod b ≤ 0 := by
      have h3 := Int.tmod_nonneg b (show 0 ≤ -a by omega)
      rw [Int.neg_tmod] at h3
      omega
    omega
theorem fdiv_range {a : Int} {n : Nat} (ha : -9223372036854775808 ≤ a ∧ a < 9223372036854775808) : -9223372036854775808 ≤ a.fdiv (2 ^ n) ∧ a.fdiv (2 ^ n) < 9223372036854775808 := by
  have hp : (0 : Int) < 2 ^ n := Int.pow_pos (by omega)
  rw [Int.fdiv_eq_ediv_of_nonneg _ (by omega)]
  refine ⟨?_, ?_⟩
  · apply Int.le_ediv_of_mul_le hp
    have : (1 : Int) ≤ 2 ^ n := by omega
    have := Int.mul_le_mul_of_nonneg_left this (show (0 : Int) ≤ 9223372036854775808 by omega)
    omega
  · apply Int.ediv_lt_of_lt_mul hp
    have : (1 : Int) ≤ 2 ^ n := by omega
    have := Int.mul_le_mul_of_nonneg_left this (show (0 : Int) ≤ 9223372036854775808 by omega)
    omega
theorem and63 {b : Int} (h : U b) : ((BitVec.ofInt 64 b &&& BitVec.ofInt 64 63).toNat : Int) = b % 64 := by
  obtain ⟨n, rfl⟩ : ∃ n : Nat, b = n := ⟨b.toNat, by unfold U at h; omega⟩
  unfold U at h
  rw [BitVec.toNat_and, show BitVec.ofInt 64 63 = BitVec.ofNat 64 63 from rfl, show BitVec.ofInt 64 (n : Int) = BitVec.ofNat 64 n by simp, BitVec.toNat_ofNat, BitVec.toNat_ofNat, Nat.mod_eq_of_lt (show n < 2 ^ 64 by omega), show 63 % 2 ^ 64 = 2 ^ 6 - 1 from rfl, Nat.and_two_pow_sub_one_eq_mod]
  omega
end Go.Proofs.Ytdedehfeekpioaa
