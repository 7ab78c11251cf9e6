/-
  A net with spare room whose lists are laid to zero one after the other, and the lists of a book; no statement is proved here.
-/
import Derived.Test.YtfjabjnajcfamaaKeep
namespace Go.Proofs.Ytfjabjnajcfamaa
open Go.RowKit

theorem Ry.own1 {w0 w : World} {g k cap : Nat} {fs : List Int} (h : Ry w0 w g k cap fs) : ∃ ys, ys.length = k ∧ Own1 w 3 g cap ys := by
  rcases h.2.2 with ⟨h0, _⟩ | ⟨g', cap', cur, h0, h1, h2, h3, h4, h5, h6⟩
  · cases h0
  · cases h0
    refine ⟨cur.toList.take k, ?_, ⟨cur, h2, by omega, ?_, ?_⟩, h4⟩
    · simp; have := h.1; omega
    · simp; have := h.1; omega
    · simp only [List.length_take, Array.length_toList]
      rw [Nat.min_eq_left (by have := h.1; omega)]

/-- Of n lists those from i on are as they were made. -/
structure Zn (w0 w : World) (v : Value) (n i : Nat) (M : List (List Int)) (K : Nat → Nat × Nat) : Prop where
  row : w.ownsRow w0.heap.size 23 1 v n (rowsN M (gk K) n)
  mine : ∀ j, j < n → ∃ ys, ys.length = (lsAt M j).length ∧ Own1 w 3 (K j).1 (K j).2 ys
  left : ∀ j, i ≤ j → j < n → Ry w0 w (K j).1 (lsAt M j).length (K j).2 (lsAt M j)
  apart : ∀ j j', j < n → j' < n → j ≠ j' → (K j).1 ≠ (K j').1
  new : ∀ j, j < n → w0.heap.size ≤ (K j).1

theorem Inn.zn {w0 w : World} {v : Value} {n : Nat} {M : List (List Int)} {K : Nat → Nat × Nat} (h : Inn w0 w v n M K) : Zn w0 w v n 0 M K :=
  ⟨h.row, fun j hj => (h.each j hj).own1, fun j _ hj => h.each j hj, h.apart, fun j hj => (h.each j hj).lt.1⟩
theorem Zn.keep0 {w0 w w' : World} {v : Value} {n i : Nat} {M : List (List Int)} {K : Nat → Nat × Nat} (h : Zn w0 w v n i M K) (x : Ext [] w w') : Zn w0 w' v n i M K :=
  ⟨own_keep0 h.row x, fun j hj => by obtain ⟨ys, h1, h2⟩ := h.mine j hj; exact ⟨ys, h1, h2.keep x (by simp)⟩, fun j hi hj => (h.left j hi hj).keep x (by simp), h.apart, h.new⟩
theorem Zn.next {w0 w : World} {v : Value} {n i : Nat} {M : List (List Int)} {K : Nat → Nat × Nat} (h : Zn w0 w v n i M K) : Zn w0 w v n (i + 1) M K :=
  ⟨h.row, h.mine, fun j hi hj => h.left j (by omega) hj, h.apart, h.new⟩

theorem own_off {w : World} {base : Nat} {v : Value} {n : Nat} {xs : List Value} (h : w.ownsRow base 23 1 v n xs) {b c : Nat} {ys : List Value} (hb : Own1 w 3 b c ys) : v.ownBlock ≠ some b := by
  obtain ⟨⟨cur, h1, _⟩, _⟩ := hb
  exact own_ne h h1 (by decide)

/-- A place of the list before i is written. -/
theorem Zn.set {w0 w : World} {v : Value} {n i k : Nat} {x : Value} {M : List (List Int)} {K : Nat → Nat × Nat} (h : Zn w0 w v n (i + 1) M K) (hi : i < n) : Zn w0 (w.setCell ⟨(K i).1, k, none⟩ x) v n (i + 1) M K ∧ Ext [(K i).1] w (w.setCell ⟨(K i).1, k, none⟩ x) := by
  have hE := Ext.setCell [(K i).1] w ⟨(K i).1, k, none⟩ x (by simp)
  obtain ⟨zs, hz1, hz2⟩ := h.mine i hi
  refine ⟨⟨own_keep h.row hE ?_, fun j hj => ?_, fun j h1 h2 => ?_, h.apart, h.new⟩, hE⟩
  · intro b hb
    simp at hb
    subst hb
    exact own_off h.row hz2
  · by_cases e : j = i
    · subst e
      exact ⟨zs.set k x, by simpa using hz1, hz2.set k x⟩
    · obtain ⟨ys, h1, h2⟩ := h.mine j hj
      exact ⟨ys, h1, h2.keep hE (by simpa using h.apart j i hj hi e)⟩
  · exact (h.left j h1 h2).keep hE (by simpa using h.apart j i h2 hi (by omega))

theorem Zn.cell {w0 w : World} {a : Option Addr} {n c i : Nat} {M : List (List Int)} {K : Nat → Nat × Nat} (h : Zn w0 w (.slice a n c) n i M K) {j : Nat} (hj : j < n) : ∃ g, a = some ⟨g, 0, none⟩ ∧ w.cell? ⟨g, j, none⟩ = some (.slice (some ⟨(K j).1, 0, none⟩) (lsAt M j).length (K j).2) := by
  rcases h.row.2 with ⟨_, h2⟩ | ⟨g, cap, cur, h0, h1, h2, _⟩
  · omega
  · cases h0
    refine ⟨g, rfl, ?_⟩
    rw [World.ownsRow.cellAt h.row j (by omega), rowsN_get M _ _ j hj]
    rfl

/-! ### the lists of a book -/

/-- A slice value as the look at memory has it. -/
def toIt : Value → Option (Nat × Nat × Nat)
  | .slice (some ad) n c => some (ad.block, n, c)
  | _ => none
theorem toIt_block {v : Value} {b l c : Nat} (h : toIt v = some (b, l, c)) : v.ownBlock = some b := by
  unfold toIt at h
  split at h
  · simp only [Option.some.injEq, Prod.mk.injEq] at h
    simp [Value.ownBlock, h.1]
  · cases h
/-- A list that may lie in a book. -/
def Itm (w : World) (v : Value) : Prop := iv (toIt v) = v ∧ ∀ b l c, toIt v = some (b, l, c) → (∃ ys, ys.length = l ∧ Own1 w 3 b c ys) ∧ l ≤ 1048576

theorem itm_own {w : World} {base : Nat} {v : Value} {n : Nat} {xs : List Value} (h : w.ownsRow base 3 1 v n xs) (hn : n ≤ 1048576) : Itm w v := by
  have hlen := h.1
  rcases h.2 with ⟨rfl, rfl⟩ | ⟨g, cap, cur, rfl, h1, h2, h3, h4, h5, h6⟩
  · exact ⟨rfl, fun b l c hv => by simp [toIt] at hv⟩
  · refine ⟨rfl, fun b l c hv => ?_⟩
    simp only [toIt, Option.some.injEq, Prod.mk.injEq] at hv
    obtain ⟨rfl, rfl, rfl⟩ := hv
    refine ⟨⟨xs, by omega, ⟨cur, h2, by omega, by omega, ?_⟩, h4⟩, hn⟩
    rw [← h6]
    simp only [Nat.mul_one] at h6 hlen ⊢
    rw [h6, hlen, h6]
theorem itm_own1 {w : World} {g n c : Nat} {ys : List Value} (h : Own1 w 3 g c ys) (hl : ys.length = n) (hn : n ≤ 1048576) : Itm w (.slice (some ⟨g, 0, none⟩) n c) := by
  refine ⟨rfl, fun b l c' hv => ?_⟩
  simp only [toIt, Option.some.injEq, Prod.mk.injEq] at hv
  obtain ⟨rfl, rfl, rfl⟩ := hv
  exact ⟨⟨ys, hl, h⟩, hn⟩

theorem bk_of {w : World} {T : List Value} {h base ci : Nat} (hO : w.ownsRow base 23 1 (.slice (some ⟨h, 0, none⟩) T.length ci) T.length T) (hT : ∀ i, i < T.length → Itm w (T.getD i undef))
    (hA : ∀ i j b, i < T.length → j < T.length → i ≠ j → (T.getD i undef).ownBlock = some b → (T.getD j undef).ownBlock ≠ some b) : Bk 3 w h T.length (fun i => toIt (T.getD i undef)) := by
  refine ⟨fun i hi => ?_, fun i b l c hi hit => ?_, fun i j b l c b' l' c' hi hj hit hit' hne e => ?_⟩
  · rw [World.ownsRow.cellAt hO i (by omega), (hT i hi).1]
    simp [List.getD, hi]
  · obtain ⟨⟨ys, h1, h2⟩, h3⟩ := (hT i hi).2 b l c hit
    refine ⟨⟨ys, h1, h2⟩, fun e => ?_, h3⟩
    subst e
    exact own_off hO h2 rfl
  · subst e
    exact hA i j b hi hj hne (toIt_block hit) (toIt_block hit')

end Go.Proofs.Ytfjabjnajcfamaa
