/-
  Floats: what the operations make of two words, and their bits; no statement is proved here.
-/
import Derived.Test.YtdedehfeekpioaaInts
import Derived.Test.YtdedehfeekpioaaFlt
import Derived.Laws.Externs
import Derived.Laws.FloatArith
namespace Go.Proofs.Ytdedehfeekpioaa
open Go.RowKit

theorem hid {p : Prop} (h : p) : Hid p := h

def theNan : Int := 0x7FF8000000000001
/-- The bits of a float, the same ones of all nans. -/
def nb (r : Nat) : Int := if rungOf r ≤ infR then (r : Int) else theNan
def fo (op : BinOp) (x y : Nat) : Int := match floatBits op .f64 x y with | some r => nb r | none => theNan
def flt (x y : Nat) : Bool := FloatKind.f64.format.order x y == some .lt

theorem nb_nan (t : Nat) : nb ((t % 2) * 2 ^ 63 + 0x7ff0000000000000 + 1 + (t / 2) % (2 ^ 52 - 1)) = theNan := by
  unfold nb
  rw [if_neg]
  unfold rungOf infR
  have h1 : t % 2 < 2 := Nat.mod_lt _ (by decide)
  have h2 : t / 2 % (2 ^ 52 - 1) < 2 ^ 52 - 1 := Nat.mod_lt _ (by decide)
  generalize t / 2 % (2 ^ 52 - 1) = m at *
  generalize t % 2 = s at *
  obtain rfl | rfl : s = 0 ∨ s = 1 := by omega
  · omega
  · omega

theorem farith_run (op : BinOp) (ho : op = .add ∨ op = .sub ∨ op = .mul ∨ op = .quo) (x y : Nat) (w : World) : ∃ r m, (binOp op 43 (.float .f64 x) (.float .f64 y)).run Try.prog w = .ok (.float .f64 r) (w.drewN m) ∧ nb r = fo op x y ∧ r < 18446744073709551616 := by
  unfold fo
  cases h : floatBits op .f64 x y with
  | some r => exact ⟨r, 0, run_float_arith w op 43 .f64 x y r h, rfl, by have := floatBits_wf h; simpa [Lit.wf] using this⟩
  | none =>
    refine ⟨_, 1, ?_, nb_nan (w.tape w.drawn (.nanBits .f64 x y)), ?_⟩
    · rcases ho with rfl | rfl | rfl | rfl <;> unfold floatBits at h <;> simp only at h <;> simp [binOp, Op.floatArith, h, Question.forced, Question.cut] <;> rfl
    · have h1 : (w.tape w.drawn (.nanBits .f64 x y)) % 2 < 2 := Nat.mod_lt _ (by decide)
      have h2 : (w.tape w.drawn (.nanBits .f64 x y)) / 2 % (2 ^ 52 - 1) < 2 ^ 52 - 1 := Nat.mod_lt _ (by decide)
      omega

theorem frombits_run (n : Int) (w : World) : (callFunc 20 #[.int .u64 n]).run Try.prog w = .ok (.value (.float .f64 n.toNat)) w := by
  rw [run_callFunc_extern (e := Extern.MathFloatBits.float64frombits) Try.func20 (by kernel_rfl) (by kernel_rfl) (by kernel_rfl) (by rfl)]
  rfl
theorem bits_run (r : Nat) (w : World) : (callFunc 27 #[.float .f64 r]).run Try.prog w = .ok (.value (.int .u64 r)) w := by
  rw [run_callFunc_extern (e := Extern.MathFloatBits.float64bits) Try.func27 (by kernel_rfl) (by kernel_rfl) (by kernel_rfl) (by rfl)]
  rfl
theorem self_eq (r : Nat) : Op.floatEq .f64 r r = decide (rungOf r ≤ infR) := by
  rw [Bool.eq_iff_iff, feq_iff, decide_eq_true_iff]
  unfold Feq
  constructor
  · exact fun h => h.1
  · exact fun h => ⟨h, h, .inl ⟨rfl, rfl⟩⟩

theorem isnan_any (r : Nat) (w : World) : Calls Try.prog 29 #[.float .f64 r] w (fun e w' => e = .returned (.bool (!decide (rungOf r ≤ infR))) ∧ w' = w) := by
  rw [← self_eq]
  go_enter Try.func29, Try.ntmps29
  go_wp2_with fail
  go_ret
  exact ⟨rfl, rfl⟩
theorem bitsOf_any (r : Nat) (w : World) : Calls Try.prog 26 #[.float .f64 r] w (fun e w' => e = .returned (.int .u64 (nb r)) ∧ w' = w) := by
  have K := isnan_any r w
  have hb := bits_run r w
  unfold nb
  by_cases q : rungOf r ≤ infR
  · rw [if_pos q]
    rw [decide_eq_true q] at K
    clear q
    go_enter Try.func26, Try.ntmps26
    go_wp2_with (go_at_call 29; refine met K ?_)
    go_ret
    exact ⟨rfl, rfl⟩
  · rw [if_neg q]
    rw [decide_eq_false q] at K
    clear q
    go_enter Try.func26, Try.ntmps26
    go_wp2_with (go_at_call 29; refine met K ?_)
    go_ret
    exact ⟨rfl, rfl⟩
theorem rnan_any (r : Nat) (hr : r < 18446744073709551616) (w : World) : Calls Try.prog 28 #[.int .u64 r] w (fun e w' => e = .returned (.bool (!decide (rungOf r ≤ infR))) ∧ w' = w) := by
  have h : decide ((9218868437227405312 : Int) < (r : Int).tmod 9223372036854775808) = (!decide (rungOf r ≤ infR)) := by
    rw [Bool.eq_iff_iff]
    simp only [decide_eq_true_eq, Bool.not_eq_true', decide_eq_false_iff_not]
    unfold rungOf infR
    rw [Int.tmod_eq_emod_of_nonneg (by omega)]
    omega
  rw [← h]
  go_enter Try.func28, Try.ntmps28
  go_wp2_with fail
  go_ret
  exact ⟨rfl, rfl⟩
theorem rbits_any (r : Nat) (hr : r < 18446744073709551616) (w : World) : Calls Try.prog 24 #[.float .f64 r] w (fun e w' => e = .returned (.int .u64 (nb r)) ∧ w' = w) := by
  have K := rnan_any r hr w
  have hb := bits_run r w
  unfold nb
  by_cases q : rungOf r ≤ infR
  · rw [if_pos q]
    rw [decide_eq_true q] at K
    clear q
    go_enter Try.func24, Try.ntmps24
    go_wp2_with (go_at_call 28; refine met K ?_)
    go_ret
    exact ⟨rfl, rfl⟩
  · rw [if_neg q]
    rw [decide_eq_false q] at K
    clear q
    go_enter Try.func24, Try.ntmps24
    go_wp2_with (go_at_call 28; refine met K ?_)
    go_ret
    exact ⟨rfl, rfl⟩

def fw (way : Nat) (x y : Nat) : Int :=
  match way with
  | 12 => fo .add x y
  | 13 => fo .sub x y
  | 14 => fo .mul x y
  | 15 => fo .quo x y
  | _ => b2u (flt x y)
set_option maxHeartbeats 4000000 in
theorem ofFloats_any (way : Nat) (x y : Nat) (w : World) (h1 : 12 ≤ way) (h2 : way ≤ 16) :
    Calls Try.prog 19 #[.int .i64 way, .float .f64 x, .float .f64 y] w (fun e w' => e = .returned (.int .u64 (fw way x y)) ∧ ∃ m, w' = w.drewN m) := by
  obtain rfl | rfl | rfl | rfl | rfl : way = 12 ∨ way = 13 ∨ way = 14 ∨ way = 15 ∨ way = 16 := by omega
  · show Calls _ _ _ _ (fun e w' => e = .returned (.int .u64 (fo .add x y)) ∧ ∃ m, w' = w.drewN m)
    obtain ⟨r, m, hr, hn, _⟩ := farith_run .add (by simp) x y w
    rw [← hn]
    clear hn
    go_enter Try.func19, Try.ntmps19
    go_wp2_with (go_at_call 26; refine met (bitsOf_any _ _) ?_)
    go_ret
    exact ⟨rfl, _, rfl⟩
  · show Calls _ _ _ _ (fun e w' => e = .returned (.int .u64 (fo .sub x y)) ∧ ∃ m, w' = w.drewN m)
    obtain ⟨r, m, hr, hn, _⟩ := farith_run .sub (by simp) x y w
    rw [← hn]
    clear hn
    go_enter Try.func19, Try.ntmps19
    go_wp2_with (go_at_call 26; refine met (bitsOf_any _ _) ?_)
    go_ret
    exact ⟨rfl, _, rfl⟩
  · show Calls _ _ _ _ (fun e w' => e = .returned (.int .u64 (fo .mul x y)) ∧ ∃ m, w' = w.drewN m)
    obtain ⟨r, m, hr, hn, _⟩ := farith_run .mul (by simp) x y w
    rw [← hn]
    clear hn
    go_enter Try.func19, Try.ntmps19
    go_wp2_with (go_at_call 26; refine met (bitsOf_any _ _) ?_)
    go_ret
    exact ⟨rfl, _, rfl⟩
  · show Calls _ _ _ _ (fun e w' => e = .returned (.int .u64 (fo .quo x y)) ∧ ∃ m, w' = w.drewN m)
    obtain ⟨r, m, hr, hn, _⟩ := farith_run .quo (by simp) x y w
    rw [← hn]
    clear hn
    go_enter Try.func19, Try.ntmps19
    go_wp2_with (go_at_call 26; refine met (bitsOf_any _ _) ?_)
    go_ret
    exact ⟨rfl, _, rfl⟩
  · show Calls _ _ _ _ (fun e w' => e = .returned (.int .u64 (b2u (flt x y))) ∧ ∃ m, w' = w.drewN m)
    go_enter Try.func19, Try.ntmps19
    go_wp2_with (go_at_call 21; refine met (truth_any _ _) ?_)
    go_ret
    exact ⟨rfl, 0, rfl⟩
end Go.Proofs.Ytdedehfeekpioaa
