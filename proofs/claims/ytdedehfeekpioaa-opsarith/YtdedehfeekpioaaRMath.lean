/-
  The reference's words of whole numbers, as plain facts; no statement is proved here.
-/
import Derived.Test.YtdedehfeekpioaaInts
namespace Go.Proofs.Ytdedehfeekpioaa
open Go.RowKit

/-- A number without its sign. -/
def sz (x : Int) : Int := (x.natAbs : Int)
theorem sz_U {x : Int} (h : -9223372036854775808 ≤ x ∧ x < 9223372036854775808) : U (sz x) := by unfold U sz; omega
theorem um_neg_um (n : Int) : um (-um n) = um (-n) := by
  rw [← Int.zero_sub, um_subr, Int.zero_sub]
theorem quo_same (x y : Int) (hx : -9223372036854775808 ≤ x ∧ x < 9223372036854775808) (h : decide (x < 0) = decide (y < 0)) : um ((sz x).tdiv (sz y)) = um (x.tdiv y) := by
  unfold sz
  rcases Int.lt_or_le x 0 with q | q
  · have hy : y < 0 := by simp [q] at h; omega
    rw [show (x.natAbs : Int) = -x by omega, show (y.natAbs : Int) = -y by omega, Int.neg_tdiv_neg]
  · have hy : 0 ≤ y := by simp [show ¬ x < 0 by omega] at h; omega
    rw [show (x.natAbs : Int) = x by omega, show (y.natAbs : Int) = y by omega]
theorem quo_diff (x y : Int) (h : decide (x < 0) ≠ decide (y < 0)) : um (-((sz x).tdiv (sz y))) = um (x.tdiv y) := by
  unfold sz
  rcases Int.lt_or_le x 0 with q | q
  · have hy : 0 ≤ y := by simp [q] at h; omega
    rw [show (x.natAbs : Int) = -x by omega, show (y.natAbs : Int) = y by omega, Int.neg_tdiv, Int.neg_neg]
  · have hy : y < 0 := by simp [show ¬ x < 0 by omega] at h; omega
    rw [show (x.natAbs : Int) = x by omega, show (y.natAbs : Int) = -y by omega, Int.tdiv_neg, Int.neg_neg]
theorem rem_pos (x y : Int) (h : 0 ≤ x) : (sz x).tmod (sz y) = x.tmod y := by
  unfold sz
  rw [show (x.natAbs : Int) = x by omega]
  rcases Int.lt_or_le y 0 with q | q
  · rw [show (y.natAbs : Int) = -y by omega, Int.tmod_neg]
  · rw [show (y.natAbs : Int) = y by omega]
theorem rem_neg (x y : Int) (h : x < 0) : -((sz x).tmod (sz y)) = x.tmod y := by
  unfold sz
  rw [show (x.natAbs : Int) = -x by omega, Int.neg_tmod, Int.neg_neg]
  rcases Int.lt_or_le y 0 with q | q
  · rw [show (y.natAbs : Int) = -y by omega, Int.tmod_neg]
  · rw [show (y.natAbs : Int) = y by omega]
theorem div_U {x y : Int} (hx : U x) (hy : U y) : U (x.tdiv y) := by
  unfold U at *
  obtain ⟨n, rfl⟩ : ∃ n : Nat, x = n := ⟨x.toNat, by omega⟩
  obtain ⟨m, rfl⟩ : ∃ m : Nat, y = m := ⟨y.toNat, by omega⟩
  rw [show (n : Int).tdiv m = ((n / m : Nat) : Int) from (Int.ofNat_tdiv n m).symm]
  have := Nat.div_le_self n m
  generalize n / m = k at *
  omega
theorem mod_U {x y : Int} (hx : U x) (hy : U y) : U (x.tmod y) := by
  unfold U at *
  obtain ⟨n, rfl⟩ : ∃ n : Nat, x = n := ⟨x.toNat, by omega⟩
  obtain ⟨m, rfl⟩ : ∃ m : Nat, y = m := ⟨y.toNat, by omega⟩
  rw [show (n : Int).tmod m = ((n % m : Nat) : Int) from (Int.ofNat_tmod n m).symm]
  have := Nat.mod_le n m
  generalize n % m = k at *
  omega
theorem sz_zero {x : Int} : sz x = 0 ↔ x = 0 := by unfold sz; omega

theorem size_any (x : Int) (w : World) (h : -9223372036854775808 ≤ x ∧ x < 9223372036854775808) : Calls Try.prog 22 #[.int .i64 x] w (fun e w' => e = .returned (.int .u64 (sz x)) ∧ w' = w) := by
  by_cases q : x < 0
  · have e : IntKind.u64.wrap (-IntKind.u64.wrap x) = sz x := by
      rw [wrapU, wrapU, um_neg_um]
      unfold sz um
      omega
    rw [← e]
    clear e
    go_enter Try.func22, Try.ntmps22
    go_wp2_with fail
    go_ret
    exact ⟨rfl, rfl⟩
  · have e : sz x = x := by
      unfold sz
      omega
    rw [e]
    clear e
    have q2 : 0 ≤ x := by omega
    go_enter Try.func22, Try.ntmps22
    go_wp2_with fail
    go_ret
    exact ⟨rfl, rfl⟩
theorem shl_u (a b : Int) (w : World) (hb : U b) : (Op.shift BinOp.shl IntKind.u64 a IntKind.u64 (b.tmod 64)).run Try.prog w = .ok (.int .u64 (um (a * 2 ^ (b % 64).toNat))) w := by
  have e : b.tmod 64 = b % 64 := Int.tmod_eq_emod_of_nonneg hb.1
  rw [e]
  unfold Op.shift
  rw [if_neg (by omega)]
  show (Sem.pure _).run Try.prog w = _
  rw [show IntKind.u64.bits = 64 from rfl, cnt_min, wrapU]
  rfl
theorem shr_u (x b : Int) (w : World) (hb : U b) : (Op.shift BinOp.shr IntKind.i64 x IntKind.u64 (b.tmod 64)).run Try.prog w = .ok (.int .i64 (x.fdiv (2 ^ (b % 64).toNat))) w := by
  have e : b.tmod 64 = b % 64 := Int.tmod_eq_emod_of_nonneg hb.1
  rw [e]
  unfold Op.shift
  rw [if_neg (by omega)]
  show (Sem.pure _).run Try.prog w = _
  rw [show IntKind.i64.bits = 64 from rfl, cnt_min]
  rfl
end Go.Proofs.Ytdedehfeekpioaa
