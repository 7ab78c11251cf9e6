/-
  The program's copied: a sound value in memory of its own; no statement is proved here.
-/
import Derived.Test.YtlnncapokdoilaaDoorOText
namespace Go.Proofs.YtlnncapokdoilaaDoor
open Go.RowKit

/-- The first k cells of a row of n. -/
def Rw (w : World) (g n : Nat) (l : List Cl) (G : Nat → Option Addr × Nat) (k : Nat) : Prop :=
  ∃ cs : Array Value, w.heap[g]? = some (.cells cs 28 (0, 0)) ∧ cs.size = n * 4 ∧ ∀ i, i < k → ∀ j, j < 4 → cs[i * 4 + j]? = (clRow (cAt l i) (G i))[j]?
theorem Rw.keep {S : List Nat} {w w' : World} {g n k : Nat} {l : List Cl} {G : Nat → Option Addr × Nat} (h : Rw w g n l G k) (e : Ext S w w') (hg : g ∉ S) : Rw w' g n l G k := by
  obtain ⟨cs, h1, h2, h3⟩ := h
  exact ⟨cs, e.keep h1 hg, h2, h3⟩
theorem Rw.cell {w : World} {g n k : Nat} {l : List Cl} {G : Nat → Option Addr × Nat} (h : Rw w g n l G k) {i : Nat} (hi : i < n * 4) : ∃ v, w.cell? ⟨g, i, none⟩ = some v := by
  obtain ⟨cs, h1, h2, h3⟩ := h
  exact ⟨cs[i]'(by omega), by rw [cell_of_row _ _ _ _ _ _ h1]; simp [h2, hi]⟩
theorem Rw.frz {w : World} {g n k : Nat} {l : List Cl} {G : Nat → Option Addr × Nat} (h : Rw w g n l G k) (i : Nat) : w.frozen? ⟨g, i, none⟩ = false := by
  obtain ⟨cs, h1, h2, h3⟩ := h
  exact frozen_of_row _ _ _ _ _ h1
theorem Rw.put {w : World} {g n k : Nat} {l : List Cl} {G : Nat → Option Addr × Nat} (h : Rw w g n l G k) (hk : k < n) (a1 : Option Addr) (c1 : Nat) :
    Rw ((((w.setCell ⟨g, k * 4, none⟩ (.int .u64 (cAt l k).n)).setCell ⟨g, k * 4 + 1, none⟩ (.string (cAt l k).s)).setCell ⟨g, k * 4 + 2, none⟩ (.int .i64 (cAt l k).t)).setCell ⟨g, k * 4 + 3, none⟩ (.slice a1 (cAt l k).box.length c1)) g n l (fun i => if i = k then (a1, c1) else G i) (k + 1) := by
  obtain ⟨cs, h1, h2, h3⟩ := h
  have e1 := heap_setCell_same w g (k * 4) _ _ (.int .u64 (cAt l k).n) h1
  have e2 := heap_setCell_same _ g (k * 4 + 1) _ _ (.string (cAt l k).s) e1
  have e3 := heap_setCell_same _ g (k * 4 + 2) _ _ (.int .i64 (cAt l k).t) e2
  have e4 := heap_setCell_same _ g (k * 4 + 3) _ _ (.slice a1 (cAt l k).box.length c1) e3
  refine ⟨_, e4, by simp [h2], fun i hi j hj => ?_⟩
  by_cases e : i = k
  · subst e
    rcases (by omega : j = 0 ∨ j = 1 ∨ j = 2 ∨ j = 3) with rfl | rfl | rfl | rfl <;> simp [Array.getElem?_setIfInBounds, clRow, h2] <;> omega
  · simp only [e, if_false]
    rw [← h3 i (by omega) j hj]
    simp only [Array.getElem?_setIfInBounds]
    rw [if_neg (by omega), if_neg (by omega), if_neg (by omega), if_neg (by omega)]

theorem co_of_rw {P : Nat → Prop} {d : Nat} {w : World} {g n : Nat} {l : List Cl} {G : Nat → Option Addr × Nat} (h : Rw w g n l G n) (hB : Bx P d w l G n) (hn : l.length = n) (hl : n ≤ 2513169434843)
    (hr : ∀ i, i < n → Rg (cAt l i)) (hP : P g) : Co P (d + 1) w (some ⟨g, 0, none⟩) l := by
  subst hn
  obtain ⟨cs, h1, h2, h3⟩ := h
  refine ⟨hl, .inr ⟨g, cs, rfl, hP, h1, fun i hi => ⟨(G i).1, (G i).2, ?_, (hB i hi).2⟩⟩⟩
  have key : ∀ j v, j < 4 → (clRow (cAt l i) (G i))[j]? = some v → w.cell? ⟨g, 0 + i * 4 + j, none⟩ = some v := fun j v hj hv => by
    rw [Nat.zero_add, cell_of_row w g _ _ _ _ h1, h3 i hi j hj, hv]
  obtain ⟨r1, r2, r3⟩ := hr i hi
  exact ⟨key 0 _ (by omega) rfl, key 1 _ (by omega) rfl, key 2 _ (by omega) rfl, key 3 _ (by omega) rfl, (hB i hi).1, r1, r2, r3⟩

/-- A row of cells is made. -/
theorem mk_cells (w : World) (n : Nat) (hl : n ≤ 2513169434843) : (Instr.makeSlice 23 (.int .i64 (n : Int)) (.int .i64 (n : Int))).run Tryd.prog w = .ok (.slice (some ⟨w.heap.size, 0, none⟩) n n) (w.alloc (.cells (madeCells #[.int .u64 0, .string ⟨#[]⟩, .int .i64 0, .slice none 0 0] (n * 4)) 28)) := by
  obtain ⟨i, hi, hz, hs, hb⟩ := info_parts info28
  have := run_make (P := Tryd.prog) w 23 28 i _ Tryd.underlying23 hi hz .i64 .i64 n n (by omega) (by omega) (by rw [hb]; omega) (by omega)
  rw [hs] at this
  simpa [Value.cells] using this


theorem Rw.put3 {w w3 : World} {g n k : Nat} {l : List Cl} {G : Nat → Option Addr × Nat} (h : Rw w g n l G k) (hk : k < n) (a1 : Option Addr) (c1 : Nat)
    (hE : Ext [] ((((w.setCell ⟨g, k * 4, none⟩ (.int .u64 (cAt l k).n)).setCell ⟨g, k * 4 + 1, none⟩ (.string (cAt l k).s)).setCell ⟨g, k * 4 + 2, none⟩ (.int .i64 (cAt l k).t)).setCell ⟨g, k * 4 + 3, none⟩ (.slice none 0 0)) w3) :
    Rw (w3.setCell ⟨g, k * 4 + 3, none⟩ (.slice a1 (cAt l k).box.length c1)) g n l (fun i => if i = k then (a1, c1) else G i) (k + 1) := by
  obtain ⟨cs, h1, h2, h3⟩ := h
  have e1 := heap_setCell_same w g (k * 4) _ _ (.int .u64 (cAt l k).n) h1
  have e2 := heap_setCell_same _ g (k * 4 + 1) _ _ (.string (cAt l k).s) e1
  have e3 := heap_setCell_same _ g (k * 4 + 2) _ _ (.int .i64 (cAt l k).t) e2
  have e4 := heap_setCell_same _ g (k * 4 + 3) _ _ (.slice none 0 0) e3
  have e5 := heap_setCell_same _ g (k * 4 + 3) _ _ (.slice a1 (cAt l k).box.length c1) (hE.keep e4 (by simp))
  refine ⟨_, e5, by simp [h2], fun i hi j hj => ?_⟩
  by_cases e : i = k
  · subst e
    rcases (by omega : j = 0 ∨ j = 1 ∨ j = 2 ∨ j = 3) with rfl | rfl | rfl | rfl <;> simp [Array.getElem?_setIfInBounds, clRow, h2] <;> omega
  · simp only [e, if_false]
    rw [← h3 i (by omega) j hj]
    simp only [Array.getElem?_setIfInBounds]
    rw [if_neg (by omega), if_neg (by omega), if_neg (by omega), if_neg (by omega), if_neg (by omega)]

theorem Rw.set4 {w : World} {g n k : Nat} {l : List Cl} {G : Nat → Option Addr × Nat} (h : Rw w g n l G k) (_hk : k < n) (v0 v1 v2 v3 : Value) :
    Rw ((((w.setCell ⟨g, k * 4, none⟩ v0).setCell ⟨g, k * 4 + 1, none⟩ v1).setCell ⟨g, k * 4 + 2, none⟩ v2).setCell ⟨g, k * 4 + 3, none⟩ v3) g n l G k := by
  obtain ⟨cs, h1, h2, h3⟩ := h
  have e1 := heap_setCell_same w g (k * 4) _ _ v0 h1
  have e2 := heap_setCell_same _ g (k * 4 + 1) _ _ v1 e1
  have e3 := heap_setCell_same _ g (k * 4 + 2) _ _ v2 e2
  have e4 := heap_setCell_same _ g (k * 4 + 3) _ _ v3 e3
  refine ⟨_, e4, by simp [h2], fun i hi j hj => ?_⟩
  rw [← h3 i (by omega) j hj]
  simp only [Array.getElem?_setIfInBounds]
  rw [if_neg (by omega), if_neg (by omega), if_neg (by omega), if_neg (by omega)]
/-- Where a cell names no type its box is empty, in the boxes too. -/
def Zb : Nat → List Cl → Prop
  | 0, _ => True
  | d + 1, l => ∀ i, i < l.length → ((cAt l i).t = 0 → (cAt l i).box = []) ∧ Zb d (cAt l i).box
theorem Zb.nil : ∀ d, Zb d []
  | 0 => trivial
  | d + 1 => fun i hi => by simp at hi
theorem okv_zb {ts : List Ty} : ∀ {d : Nat} {ks : List Int} {l : List Cl}, Okv ts d ks l → Zb d l
  | 0, _, _, _ => trivial
  | d + 1, ks, l, h => fun i hi => by
    obtain ⟨hf, hb⟩ := h.2 i hi
    have h0 : (cAt l i).t = 0 → (cAt l i).box = [] := fun h => List.length_eq_zero_iff.1 (hf.2.2.1 h)
    refine ⟨h0, ?_⟩
    by_cases ht : (cAt l i).t = 0
    · rw [h0 ht]; exact Zb.nil d
    · exact okv_zb (hb ht).2

end Go.Proofs.YtlnncapokdoilaaDoor
