/-
  The program's table of what each kind has, and what stands where; no statement is proved here.
-/
import Derived.Test.YtfabhhmeanpmhaaDoorSmall
namespace Go.Proofs.YtfabhhmeanpmhaaDoor
open Go.RowKit

/-- What the program's own table of parts holds. -/
def pt (k : Nat) : Int := [0, 0, 0, 0, 0, 2, 3, 0, 8, 6, 2].getD k 0
def Gl (w : World) : Prop := ∀ k, k ≤ 10 → w.cell? ⟨2, k, none⟩ = some (.int .i64 (pt k))
theorem Gl.keep0 {w w' : World} (h : Gl w) (e : Ext [] w w') : Gl w' := fun k hk => e.cell (h k hk) (by simp)

/-- Has the kind k the part p? -/
def has (k : Int) (p : Nat) : Bool := if p = 0 then k == 6 else if p = 1 then (k == 5 || k == 6 || k == 9 || k == 10) else if p = 2 then k == 9 else k == 8

theorem hasPart_any (k : Int) (p : Nat) (w : World) (h : 1 ≤ k ∧ k ≤ 10) (hp : p ≤ 3) (hG : Gl w) : Calls Tryd.prog 97 #[.int .i64 k, .int .i64 p] w fun e w' => e = .returned (.bool (has k p)) ∧ w' = w := by
  obtain ⟨n, rfl⟩ : ∃ n : Nat, k = n := ⟨k.toNat, by omega⟩
  have hc := hG n (by omega)
  clear hG
  have hn : n = 1 ∨ n = 2 ∨ n = 3 ∨ n = 4 ∨ n = 5 ∨ n = 6 ∨ n = 7 ∨ n = 8 ∨ n = 9 ∨ n = 10 := by omega
  have hq : p = 0 ∨ p = 1 ∨ p = 2 ∨ p = 3 := by omega
  clear h hp
  rcases hn with rfl | rfl | rfl | rfl | rfl | rfl | rfl | rfl | rfl | rfl <;> simp only [pt, List.getD_cons_succ, List.getD_cons_zero] at hc <;> rcases hq with rfl | rfl | rfl | rfl
  all_goals
    go_enter Tryd.func97, Tryd.ntmps97
    go_wp2
    go_ret
    exact ⟨rfl, rfl⟩

/-- The slot of a part that is a single number. -/
def slot (p : Nat) : Nat := if p = 0 then 2 else if p = 1 then 1 else 3

theorem numberOf_any (b : Nat) (p : Nat) (w : World) (hp : p ≤ 2) : Calls Tryd.prog 98 #[.pointer (some ⟨b, 0, none⟩), .int .i64 p] w fun e w' => e = .returned (.pointer (some ⟨b, slot p, none⟩)) ∧ w' = w := by
  rcases (by omega : p = 0 ∨ p = 1 ∨ p = 2) with rfl | rfl | rfl
  all_goals
    go_enter Tryd.func98, Tryd.ntmps98
    go_wp2
    go_ret
    exact ⟨rfl, rfl⟩

end Go.Proofs.YtfabhhmeanpmhaaDoor
