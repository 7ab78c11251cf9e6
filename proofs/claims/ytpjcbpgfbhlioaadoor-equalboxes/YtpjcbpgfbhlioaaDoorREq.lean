/-
  The reference's comparison of values; no statement is proved here.
-/
import Derived.Test.YtpjcbpgfbhlioaaDoorEqG
import Derived.Test.YtpjcbpgfbhlioaaDoorRSound
import Derived.Deep.RegionHeld3
import Derived.Deep.Cut
namespace Go.Proofs.YtpjcbpgfbhlioaaDoor
open Go.RowKit

theorem eqL_app {f : Int → Cl → Cl → Bool × Int} : ∀ (a b : List Int) (v w : List Cl), eqL f (a ++ b) v w = if (eqL f a v w).1 = true then eqL f b (v.drop a.length) (w.drop a.length) else eqL f a v w
  | [], b, v, w => by simp [eqL]
  | k :: a, b, v, w => by
    rw [List.cons_append, eqL, eqL]
    split
    · rw [eqL_app a b v.tail w.tail]
      split
      · cases v <;> cases w <;> simp
      · rfl
    · simp
theorem eqL_take {f : Int → Cl → Cl → Bool × Int} (ks : List Int) (v w : List Cl) (n : Nat) (hn : ks.length ≤ n) : eqL f ks (v.take n) (w.take n) = eqL f ks v w := by
  refine eqL_cong _ _ _ _ _ (fun i hi => ?_)
  have h : ∀ u : List Cl, cAt (u.take n) i = cAt u i := fun u => by
    simp only [cAt, List.getD]
    rw [List.getElem?_take, if_pos (by omega)]
  rw [h, h]
theorem eqL_bit {f : Int → Cl → Cl → Bool × Int} (ks : List Int) (v w : List Cl) : (eqL f ks v w).1 = true → eqL f ks v w = (true, 0) := eqL_ok ks v w
theorem eqL_one {f : Int → Cl → Cl → Bool × Int} (k : Int) (v w : List Cl) : eqL f [k] v w = if (f k (cAt v 0) (cAt w 0)).1 = true then (true, 0) else (false, (f k (cAt v 0) (cAt w 0)).2) := by
  rw [eqL]
  split
  · rfl
  · rfl

theorem nan_any (n : Int) (hn : 0 ≤ n ∧ n < 18446744073709551616) (w : World) : Calls Tryd.prog 45 #[.int .u64 n] w (fun e w' => e = .returned (.bool (decide (¬ rungOf n.toNat ≤ infR))) ∧ w' = w) := by
  have h1 : IntKind.u64.wrap (n.tmod 9223372036854775808) = n % 9223372036854775808 := by
    rw [Int.tmod_eq_emod_of_nonneg hn.1, IntKind.wrap_u64]; omega
  have h2 : (¬ rungOf n.toNat ≤ infR) ↔ 9218868437227405312 < n % 9223372036854775808 := by
    unfold rungOf infR; omega
  have h3 : decide (¬ rungOf n.toNat ≤ infR) = decide (9218868437227405312 < n % 9223372036854775808) := by simp only [h2]
  rw [h3]
  clear h2 h3
  by_cases hc : 9218868437227405312 < n % 9223372036854775808
  · rw [decide_eq_true hc]
    go_enter Tryd.func45, Tryd.ntmps45
    go_wp2_with fail
    go_ret
    exact ⟨rfl, rfl⟩
  · rw [decide_eq_false hc]
    go_enter Tryd.func45, Tryd.ntmps45
    go_wp2_with fail
    go_ret
    exact ⟨rfl, rfl⟩

end Go.Proofs.YtpjcbpgfbhlioaaDoor
