/-
  The lists of a book; no statement is proved here.
-/
import Derived.Test.YtfgdoehiocgkhaaApartE
namespace Go.Proofs.Ytfgdoehiocgkhaa
open Go.RowKit

theorem own_off {w : World} {base : Nat} {v : Value} {n : Nat} {xs : List Value} (h : w.ownsRow base 23 1 v n xs) {b c : Nat} {ys : List Value} (hb : Own1 w 3 b c ys) : v.ownBlock ≠ some b := by
  obtain ⟨⟨cur, h1, _⟩, _⟩ := hb
  exact own_ne h h1 (by decide)

/-! ### the lists of a book -/

/-- A slice value as the look at memory has it. -/
def toIt : Value → Option (Nat × Nat × Nat)
  | .slice (some ad) n c => some (ad.block, n, c)
  | _ => none
theorem toIt_block {v : Value} {b l c : Nat} (h : toIt v = some (b, l, c)) : v.ownBlock = some b := by
  unfold toIt at h
  split at h
  · simp only [Option.some.injEq, Prod.mk.injEq] at h
    simp [Value.ownBlock, h.1]
  · cases h
/-- A list that may lie in a book. -/
def Itm (w : World) (v : Value) : Prop := iv (toIt v) = v ∧ ∀ b l c, toIt v = some (b, l, c) → (∃ ys, ys.length = l ∧ Own1 w 3 b c ys) ∧ l ≤ 1048576

theorem itm_own {w : World} {base : Nat} {v : Value} {n : Nat} {xs : List Value} (h : w.ownsRow base 3 1 v n xs) (hn : n ≤ 1048576) : Itm w v := by
  have hlen := h.1
  rcases h.2 with ⟨rfl, rfl⟩ | ⟨g, cap, cur, rfl, h1, h2, h3, h4, h5, h6⟩
  · exact ⟨rfl, fun b l c hv => by simp [toIt] at hv⟩
  · refine ⟨rfl, fun b l c hv => ?_⟩
    simp only [toIt, Option.some.injEq, Prod.mk.injEq] at hv
    obtain ⟨rfl, rfl, rfl⟩ := hv
    refine ⟨⟨xs, by omega, ⟨cur, h2, by omega, by omega, ?_⟩, h4⟩, hn⟩
    rw [← h6]
    simp only [Nat.mul_one] at h6 hlen ⊢
    rw [h6, hlen, h6]
theorem itm_own1 {w : World} {g n c : Nat} {ys : List Value} (h : Own1 w 3 g c ys) (hl : ys.length = n) (hn : n ≤ 1048576) : Itm w (.slice (some ⟨g, 0, none⟩) n c) := by
  refine ⟨rfl, fun b l c' hv => ?_⟩
  simp only [toIt, Option.some.injEq, Prod.mk.injEq] at hv
  obtain ⟨rfl, rfl, rfl⟩ := hv
  exact ⟨⟨ys, hl, h⟩, hn⟩

theorem bk_of {w : World} {T : List Value} {h base ci : Nat} (hO : w.ownsRow base 23 1 (.slice (some ⟨h, 0, none⟩) T.length ci) T.length T) (hT : ∀ i, i < T.length → Itm w (T.getD i undef))
    (hA : ∀ i j b, i < T.length → j < T.length → i ≠ j → (T.getD i undef).ownBlock = some b → (T.getD j undef).ownBlock ≠ some b) : Bk 3 w h T.length (fun i => toIt (T.getD i undef)) := by
  refine ⟨fun i hi => ?_, fun i b l c hi hit => ?_, fun i j b l c b' l' c' hi hj hit hit' hne e => ?_⟩
  · rw [World.ownsRow.cellAt hO i (by omega), (hT i hi).1]
    simp [List.getD, hi]
  · obtain ⟨⟨ys, h1, h2⟩, h3⟩ := (hT i hi).2 b l c hit
    refine ⟨⟨ys, h1, h2⟩, fun e => ?_, h3⟩
    subst e
    exact own_off hO h2 rfl
  · subst e
    exact hA i j b hi hj hne (toIt_block hit) (toIt_block hit')

end Go.Proofs.Ytfgdoehiocgkhaa
