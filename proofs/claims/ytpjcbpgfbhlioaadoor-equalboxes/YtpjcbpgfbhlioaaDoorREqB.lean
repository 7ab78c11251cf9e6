/-
  The reference's comparison of two cells without parts; no statement is proved here.
-/
import Derived.Test.YtpjcbpgfbhlioaaDoorREq
namespace Go.Proofs.YtpjcbpgfbhlioaaDoor
open Go.RowKit

/-- The reference's comparison of values of this depth. -/
def RqAt (ts : List Ty) (ta : Option Addr) (tn tc d : Nat) (w0 : World) : Prop := ∀ (t : Nat) (a : Option Addr) (l : List Cl) (n c : Nat) (a' : Option Addr) (l' : List Cl) (n' c' : Nat) (w : World), Ext [] w0 w → t < tn → Cs d w a l → l.length = n → n ≤ c → Okv ts d (kinds ts t) l → Cs d w a' l' → l'.length = n' → n' ≤ c' → Okv ts d (kinds ts t) l' →
  Calls Tryd.prog 30 #[.slice ta tn tc, .int .i64 t, .slice a n c, .slice a' n' c'] w (SayPost w (paV (eqV ts d t l l')))

theorem shl_zero {n : Int} (h : 0 ≤ n ∧ n < 18446744073709551616) : (IntKind.u64.wrap (n * 2) == 0) = decide (rungOf n.toNat = 0) := by
  have h1 : IntKind.u64.wrap (n * 2) = n * 2 % 18446744073709551616 := by rw [IntKind.wrap_u64]
  rw [h1]
  have h2 : rungOf n.toNat = 0 ↔ n * 2 % 18446744073709551616 = 0 := by unfold rungOf; omega
  by_cases hc : n * 2 % 18446744073709551616 = 0
  · rw [decide_eq_true (h2.2 hc)]; simpa using hc
  · rw [decide_eq_false (fun q => hc (h2.1 q))]; simpa using hc

/-- Two floats, in the reference's words. -/
theorem feq_cases {x y : Int} (hx : 0 ≤ x ∧ x < 18446744073709551616) (hy : 0 ≤ y ∧ y < 18446744073709551616) :
    (¬ rungOf x.toNat ≤ infR → Op.floatEq .f64 x.toNat y.toNat = false) ∧ (¬ rungOf y.toNat ≤ infR → Op.floatEq .f64 x.toNat y.toNat = false) ∧
    (rungOf x.toNat ≤ infR → rungOf y.toNat ≤ infR → x = y → Op.floatEq .f64 x.toNat y.toNat = true) ∧ (rungOf x.toNat = 0 → rungOf y.toNat = 0 → Op.floatEq .f64 x.toNat y.toNat = true) ∧ (x ≠ y → ¬ (rungOf x.toNat = 0 ∧ rungOf y.toNat = 0) → Op.floatEq .f64 x.toNat y.toNat = false) := by
  have hb : ∀ b : Bool, (b = true → False) → b = false := fun b h => by cases b; rfl; exact absurd rfl h
  refine ⟨fun h => hb _ fun q => h ((feq_iff _ _).1 q).1, fun h => hb _ fun q => h ((feq_iff _ _).1 q).2.1, fun h1 _ h3 => by rw [h3] at h1 ⊢; exact (feq_self _).2 h1, fun h1 h2 => (feq_iff _ _).2 ⟨by rw [h1]; exact Nat.zero_le _, by rw [h2]; exact Nat.zero_le _, .inr ⟨h1, h2⟩⟩, fun h1 h2 => hb _ fun q => ?_⟩
  rcases feq_bits (by omega) (by omega) q with r | r
  · exact h1 (by omega)
  · exact h2 r

theorem eqC_ok {ts : List Ty} {d : Nat} {k : Int} {x y : Cl} (h : (eqC ts (eqV ts d) k x y).1 = true) : (eqC ts (eqV ts d) k x y).2 = 0 := by
  unfold eqC at h ⊢
  split
  · rfl
  · rename_i k3
    rw [if_neg k3] at h
    split
    · rfl
    · rename_i k4
      rw [if_neg k4] at h
      split
      · rename_i k7
        rw [if_pos k7] at h
        split
        · rfl
        · rename_i h1
          rw [if_neg h1] at h
          split
          · rfl
          · rename_i h2
            rw [if_neg h2] at h
            split
            · rename_i h3; rw [if_pos h3] at h; simp at h
            · rename_i h3
              rw [if_neg h3] at h
              rw [eqV_ok h]
      · rfl
theorem eqL_one1 (ts : List Ty) (d : Nat) (k : Int) (l l' : List Cl) : eqL (eqC ts (eqV ts d)) [k] l l' = eqC ts (eqV ts d) k (cAt l 0) (cAt l' 0) := by
  rw [eqL_one]
  cases h : (eqC ts (eqV ts d) k (cAt l 0) (cAt l' 0)).1
  · rw [if_neg (by simp)]; exact Prod.ext h.symm rfl
  · rw [if_pos rfl]; exact Prod.ext h.symm (eqC_ok h).symm

end Go.Proofs.YtpjcbpgfbhlioaaDoor
