/-
  All measures of a table at once, in an array; no statement is proved here.
-/
import Derived.Test.YtfabhhmeanpmhaaDoorKeys
namespace Go.Proofs.YtfabhhmeanpmhaaDoor
open Go.RowKit

def meCells (m : Me) : List Value := [.int .i64 m.width, .int .i64 m.words, .bool m.cmp]
def flat : List Me → List Value
  | [] => []
  | m :: r => meCells m ++ flat r

theorem length_flat : ∀ F, (flat F).length = F.length * 3
  | [] => rfl
  | m :: r => by simp [flat, meCells, length_flat r]; omega
theorem flat_get : ∀ (F : List Me) (i j : Nat), i < F.length → j < 3 → (flat F)[i * 3 + j]? = (meCells (at' F i))[j]?
  | [], _, _, h, _ => by simp at h
  | m :: r, 0, j, _, hj => by
    rw [flat, List.getElem?_append_left (by simp [meCells]; omega)]
    simp [at']
  | m :: r, i + 1, j, h, hj => by
    rw [flat, List.getElem?_append_right (by simp [meCells]; omega)]
    have := flat_get r i j (by simpa using h) hj
    simp only [meCells, List.length_cons, List.length_nil] at this ⊢
    rw [show (i + 1) * 3 + j - (0 + 1 + 1 + 1) = i * 3 + j by omega, this]
    simp [at']
theorem flat_one : ∀ F v, v ∈ flat F → v.oneCell' = true
  | [], v, h => by simp [flat] at h
  | m :: r, v, h => by
    rw [flat, List.mem_append] at h
    rcases h with h | h
    · simp only [meCells, List.mem_cons, List.not_mem_nil, or_false] at h
      rcases h with rfl | rfl | rfl <;> rfl
    · exact flat_one r v h

/-- An array of 64 measures in block b. -/
structure Arr (w : World) (b : Nat) (F : List Me) : Prop where
  r : w.rangeAt b 0 (flat F)
  t : w.there b 0 192
  l : F.length = 64

theorem there_keep {S : List Nat} {w w' : World} {b o n : Nat} (h : w.there b o n) (e : Ext S w w') (hs : b ∉ S) : w'.there b o n := fun j hj => by
  obtain ⟨h1, h2⟩ := h j hj
  obtain ⟨v, hv⟩ := Option.isSome_iff_exists.1 h1
  have hb := e.block b (block_lt_of_cell hv) hs
  refine ⟨by rw [e.cell hv hs]; rfl, ?_⟩
  rw [← h2]
  simp only [World.frozen?, hb]
theorem Arr.keep {S : List Nat} {w w' : World} {b : Nat} {F : List Me} (h : Arr w b F) (e : Ext S w w') (hs : b ∉ S) : Arr w' b F :=
  ⟨fun j v hv => e.cell (h.r j v hv) hs, there_keep h.t e hs, h.l⟩
theorem Arr.mss {w : World} {b : Nat} {F : List Me} (h : Arr w b F) (E : List Me) (hE : ∀ i : Nat, i < E.length → i < 64 ∧ at' E i = at' F i) : Mss w b 0 E := fun i hi => by
  obtain ⟨h1, h2⟩ := hE i hi
  rw [h2]
  have k : ∀ j v, j < 3 → (meCells (at' F i))[j]? = some v → w.cell? ⟨b, 0 + i * 3 + j, none⟩ = some v := fun j v hj hv => by
    have := h.r (i * 3 + j) v (by rw [flat_get F i j (by rw [h.l]; exact h1) hj]; exact hv)
    rwa [← Nat.add_assoc] at this
  exact ⟨k 0 _ (by omega) rfl, k 1 _ (by omega) rfl, k 2 _ (by omega) rfl⟩

theorem Ext.setCells (b : Nat) : ∀ (vs : List Value) (o : Nat) (w : World), Ext [b] w (w.setCells b o vs)
  | [], _, w => Ext.refl _ w
  | v :: r, o, w => (Ext.setCell [b] w ⟨b, o, none⟩ v (by simp)).trans (Ext.setCells b r (o + 1) _)

/-- The array with its entry k set. -/
theorem Arr.set {w : World} {b : Nat} {F : List Me} (h : Arr w b F) (k : Nat) (hk : k < 64) (m : Me) : Arr (((w.setCell ⟨b, k * 3, none⟩ (.int .i64 m.width)).setCell ⟨b, k * 3 + 1, none⟩ (.int .i64 m.words)).setCell ⟨b, k * 3 + 2, none⟩ (.bool m.cmp)) b (F.set k m) := by
  have hs : (((w.setCell ⟨b, k * 3, none⟩ (.int .i64 m.width)).setCell ⟨b, k * 3 + 1, none⟩ (.int .i64 m.words)).setCell ⟨b, k * 3 + 2, none⟩ (.bool m.cmp)) = w.setCells b (k * 3) (meCells m) := rfl
  rw [hs]
  have hth : w.there b (k * 3) 3 := fun j hj => by have := h.t (k * 3 + j) (by omega); simpa using this
  refine ⟨fun j v hv => ?_, ?_, by rw [List.length_set]; exact h.l⟩
  · have hj : j < (F.set k m).length * 3 := by
      have := (List.getElem?_eq_some_iff.1 hv).1
      rwa [length_flat] at this
    rw [List.length_set, h.l] at hj
    obtain ⟨q, r, hq, hr, rfl⟩ : ∃ q r, q < 64 ∧ r < 3 ∧ j = q * 3 + r := ⟨j / 3, j % 3, by omega, by omega, by omega⟩
    rw [flat_get _ q r (by rw [List.length_set, h.l]; exact hq) hr] at hv
    by_cases e : q = k
    · subst e
      have : at' (F.set q m) q = m := by simp [at', List.getD, h.l, hq]
      rw [this] at hv
      have hh := World.rangeAt_setCells_same w b (q * 3) (meCells m) hth r v hv
      simpa using hh
    · have he : at' (F.set k m) q = at' F q := by
        simp only [at', List.getD, Int.toNat_natCast]
        rw [List.getElem?_set_ne (fun x => e x.symm)]
      rw [he] at hv
      have h1 : w.rangeAt b (q * 3 + r) [v] := fun j' v' hv' => by
        cases j' with
        | zero =>
          simp at hv'
          subst hv'
          have := h.r (q * 3 + r) v (by rw [flat_get _ q r (by rw [h.l]; exact hq) hr]; exact hv)
          simpa using this
        | succ j' => simp at hv'
      have h2 := World.rangeAt_setCells_apart h1 b (k * 3) (meCells m) (by simp [meCells]; omega) 0 v rfl
      simpa using h2
  · exact World.there_setCells h.t _ _ _

theorem info99 : (Tryd.prog.info? 99).map (fun i => (i.zero, i.size)) = some (some (.agg (flat (List.replicate 64 zeroMe)).toArray), 192) := by kernel_rfl

theorem wpList_alloc_run {P : Program} {w w' : World} {ops : Array Oper} {rest : List Oper} {o : Oper} {a : Act} {Q : Exit → Act → World → Prop} (hgd : o.guard = none) (v : Value)
    (hr : (execOp a.eval o).run P w = .ok (.value v) w') (h : wpList P ops Q rest (a.put o.dst v) w') : wpList P ops Q (o :: rest) a w := by
  refine wpList_plain hgd fun K hK => ?_
  unfold Oper.wp
  rw [hr]
  exact hK _ _ h

/-- A new array of zeroes. -/
theorem Arr.new (w : World) : Arr (w.alloc (.cells (flat (List.replicate 64 zeroMe)).toArray 99)) w.heap.size (List.replicate 64 zeroMe) := by
  have hb := heap_alloc_new w (.cells (flat (List.replicate 64 zeroMe)).toArray 99)
  refine ⟨fun j v hv => ?_, fun j hj => ⟨?_, frozen_of_row _ _ _ _ _ hb⟩, by simp⟩
  · rw [cell_of_row _ _ _ _ _ _ hb]; simpa using hv
  · rw [cell_of_row _ _ _ _ _ _ hb]
    have : 0 + j < (flat (List.replicate 64 zeroMe)).length := by rw [length_flat, List.length_replicate]; omega
    generalize flat (List.replicate 64 zeroMe) = L at *
    rw [List.getElem?_toArray, List.getElem?_eq_getElem this]
    rfl


end Go.Proofs.YtfabhhmeanpmhaaDoor
