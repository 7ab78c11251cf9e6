/-
  Rows of lists of one's own, grown one by one; no statement is proved here.
-/
import Derived.Test.YtfgdoehiocgkhaaTwo
import Derived.Deep.RegionLaw
namespace Go.Proofs.Ytfgdoehiocgkhaa
open Go.RowKit

def rowsN (M : List (List Int)) (G : Nat → Option Addr × Nat) : Nat → List Value
  | 0 => []
  | k + 1 => rowsN M G k ++ [.slice (G k).1 (lsAt M k).length (G k).2]
theorem rowsN_len (M : List (List Int)) (G : Nat → Option Addr × Nat) : ∀ k, (rowsN M G k).length = k
  | 0 => rfl
  | k + 1 => by rw [rowsN, List.length_append, rowsN_len M G k]; rfl
theorem rowsN_cong {M : List (List Int)} {G H : Nat → Option Addr × Nat} : ∀ k, (∀ i, i < k → G i = H i) → rowsN M G k = rowsN M H k
  | 0, _ => rfl
  | k + 1, h => by rw [rowsN, rowsN, rowsN_cong k (fun i hi => h i (by omega)), h k (by omega)]
theorem rowsN_get (M : List (List Int)) (G : Nat → Option Addr × Nat) : ∀ (n i : Nat), i < n → (rowsN M G n)[i]? = some (.slice (G i).1 (lsAt M i).length (G i).2)
  | 0, _, h => by omega
  | n + 1, i, h => by
    rw [rowsN]
    by_cases e : i = n
    · subst e
      rw [List.getElem?_append_right (by rw [rowsN_len]; exact Nat.le_refl _), rowsN_len]
      simp
    · rw [List.getElem?_append_left (by rw [rowsN_len]; omega)]
      exact rowsN_get M G n i (by omega)

/-- Each list in a row of its own. -/
def Fs (w0 w : World) (M : List (List Int)) (G : Nat → Option Addr × Nat) (k : Nat) : Prop := ∀ i, i < k → w.ownsRow w0.heap.size 3 1 (.slice (G i).1 (lsAt M i).length (G i).2) (lsAt M i).length ((lsAt M i).map (Value.int .i64))

theorem nt_of {w0 w : World} {a : Option Addr} {n c : Nat} {M : List (List Int)} {G : Nat → Option Addr × Nat} (ho : w.ownsRow w0.heap.size 23 1 (.slice a n c) n (rowsN M G n)) (hf : Fs w0 w M G n) (hn : M.length = n) (hl : n ≤ 5864062014805) (hb : ∀ i, i < n → (lsAt M i).length ≤ 17592186044416) : Nt w a M := by
  subst hn
  refine ⟨?_, hl⟩
  rcases ho.2 with ⟨h1, h2⟩ | ⟨g, cap, cur, h0, h1, h2, h3, h4, h5, h6⟩
  · left; exact List.length_eq_zero_iff.1 h2
  · right
    cases h0
    refine ⟨g, 0, rfl, fun i hi => ⟨(G i).1, (G i).2, ?_, own_vs (hf i hi), ?_, hb i hi⟩⟩
    · rw [Nat.zero_add, World.ownsRow.cellAt ho i (by omega), rowsN_get M G _ i hi]
    · obtain ⟨a', c', e, h⟩ := own_slice (hf i hi)
      cases e
      exact h


theorem ints_one (xs : List Int) : ∀ u ∈ xs.map (Value.int .i64), u.oneCell' = true := fun u hu => by obtain ⟨x, _, rfl⟩ := List.mem_map.1 hu; rfl
theorem rowsN_congM {M M' : List (List Int)} {H H' : Nat → Option Addr × Nat} : ∀ k, (∀ i, i < k → lsAt M i = lsAt M' i ∧ H i = H' i) → rowsN M H k = rowsN M' H' k
  | 0, _ => rfl
  | k + 1, h => by rw [rowsN, rowsN, rowsN_congM k (fun i hi => h i (by omega)), (h k (by omega)).1, (h k (by omega)).2]
def rv (M : List (List Int)) (H : Nat → Option Addr × Nat) (i : Nat) : Value := .slice (H i).1 (lsAt M i).length (H i).2
theorem rv_cong {M M' : List (List Int)} {H H' : Nat → Option Addr × Nat} {i : Nat} (h1 : lsAt M i = lsAt M' i) (h2 : H i = H' i) : rv M H i = rv M' H' i := by unfold rv; rw [h1, h2]

theorem lsAt_snoc (M : List (List Int)) (r : List Int) (i : Nat) : lsAt (M ++ [r]) i = if i = M.length then r else lsAt M i := by
  by_cases e : i = M.length
  · subst e; simp [lsAt, List.getD]
  · rw [if_neg e]
    by_cases h : i < M.length
    · simp [lsAt, List.getD, List.getElem?_append_left h]
    · have h1 : M.length ≤ i := by omega
      have h2 : (M ++ [r]).length ≤ i := by simp; omega
      simp [lsAt, List.getD, List.getElem?_eq_none h1, List.getElem?_eq_none h2]

/-- Lists in rows of their own, in a row of their own. -/
structure Nb (w0 w : World) (v : Value) (M : List (List Int)) (H : Nat → Option Addr × Nat) : Prop where
  row : w.ownsRow w0.heap.size 23 1 v M.length (rowsN M H M.length)
  fs : Fs w0 w M H M.length
  ap : ∀ i j, i < M.length → j < M.length → i ≠ j → ∀ g, (rv M H i).ownBlock = some g → (rv M H j).ownBlock ≠ some g

theorem nb_nil (w0 w : World) : Nb w0 w (.slice none 0 0) [] (fun _ => (none, 0)) := ⟨own_nil _ _ _ _, fun i hi => by simp at hi, fun i j hi => by simp at hi⟩
theorem Nb.keep0 {w0 w w' : World} {v : Value} {M : List (List Int)} {H : Nat → Option Addr × Nat} (h : Nb w0 w v M H) (x : Ext [] w w') : Nb w0 w' v M H := ⟨own_keep0 h.row x, fun i hi => own_keep0 (h.fs i hi) x, h.ap⟩

/-- An empty list more. -/
theorem Nb.ext {w0 w : World} {v : Value} {M : List (List Int)} {H : Nat → Option Addr × Nat} (h : Nb w0 w v M H) (hE : Ext [] w0 w) (hM : M.length ≤ 100000) :
    ∃ v' w', (Builtin.append_ #[31, 31] 31 #[v, .slice (some ⟨w.heap.size, 0, none⟩) 1 1]).run Try.prog (w.alloc (.cells #[.slice none 0 0] 23)) = .ok v' w' ∧ Nb w0 w' v' (M ++ [[]]) (fun i => if i = M.length then (none, 0) else H i) ∧ Ext [] w0 w' := by
  have hE3 := Ext.alloc [] w (.cells #[.slice none 0 0] 23)
  have hV3 := vs_new w 23 [.slice none 0 0]
  have hOw := own_keep0 h.row hE3
  obtain ⟨v2, w4, hr2, hO2, hE4, hX4⟩ := app_own w0 _ (hE.trans hE3) 31 31 23 _ 24 Try.underlying31 info23 rfl (by omega) _ M.length _ hOw (some ⟨w.heap.size, 0, none⟩) 1 1 _ rfl hV3 (by simp [Value.oneCell']) (by omega)
  have hls : ∀ i, i < M.length → lsAt (M ++ [[]]) i = lsAt M i := fun i hi => by rw [lsAt_snoc, if_neg (by omega)]
  have hlast : lsAt (M ++ [[]]) M.length = [] := by rw [lsAt_snoc, if_pos rfl]
  refine ⟨v2, w4, hr2, ⟨?_, fun i hi => ?_, fun i j hi hj hij g => ?_⟩, hE4⟩
  · have e1 : rowsN (M ++ [[]]) (fun i => if i = M.length then (none, 0) else H i) (M.length + 1) = rowsN M H M.length ++ [.slice none 0 0] := by
      rw [rowsN, rowsN_congM M.length (M' := M) (H' := H) (fun i hi => ⟨hls i hi, by simp [Nat.ne_of_lt hi]⟩), hlast]
      simp
    simp only [List.length_append, List.length_singleton]
    rw [e1]; exact hO2
  · simp only [List.length_append, List.length_singleton] at hi
    by_cases e : i = M.length
    · subst e
      rw [hlast]
      simp only [if_true]
      exact own_nil _ _ _ _
    · rw [hls i (by omega)]
      simp only [e, if_false]
      have hf := h.fs i (by omega)
      have h3 := own_keep0 hf hE3
      exact own_keep h3 hX4 (own_apart h3 hOw (by decide))
  · simp only [List.length_append, List.length_singleton] at hi hj
    by_cases e : i = M.length
    · subst e; intro q; simp [rv, Value.ownBlock] at q
    · by_cases e' : j = M.length
      · subst e'; intro _ q; simp [rv, Value.ownBlock] at q
      · rw [rv_cong (M' := M) (H' := H) (hls i (by omega)) (by simp [e]), rv_cong (M := M ++ [[]]) (M' := M) (H' := H) (i := j) (hls j (by omega)) (by simp [e'])]
        exact h.ap i j (by omega) (by omega) hij g

/-- What a walk reads of the last list. -/
theorem Nb.last {w0 w : World} {v : Value} {M : List (List Int)} {r : List Int} {H : Nat → Option Addr × Nat} (h : Nb w0 w v (M ++ [r]) H) : ∃ g c, v = .slice (some ⟨g, 0, none⟩) (M.length + 1) c ∧ M.length + 1 ≤ c ∧ w.cell? ⟨g, M.length, none⟩ = some (.slice (H M.length).1 r.length (H M.length).2) ∧ (∀ j, w.frozen? ⟨g, j, none⟩ = false) ∧ g < w.heap.size ∧ w0.heap.size ≤ g ∧
    w.ownsRow w0.heap.size 3 1 (.slice (H M.length).1 r.length (H M.length).2) r.length (r.map (Value.int .i64)) := by
  have hr := h.row
  simp only [List.length_append, List.length_singleton] at hr
  obtain ⟨g, c, rfl, _⟩ := hr.form (by omega)
  obtain ⟨a', c', e, hc⟩ := own_slice hr
  simp only [Value.slice.injEq] at e
  obtain ⟨_, _, rfl⟩ := e
  have hl : lsAt (M ++ [r]) M.length = r := by rw [lsAt_snoc, if_pos rfl]
  have hf := h.fs M.length (by simp)
  rw [hl] at hf
  have hlt := own_lt hr g rfl
  refine ⟨g, c, rfl, hc, ?_, fun j => hr.frozenAt j, hlt.2, hlt.1, hf⟩
  rw [hr.cellAt M.length (by omega), rowsN_get _ _ _ _ (by omega), hl]

/-- The last list has grown. -/
theorem Nb.grow {w0 w W W2 : World} {M : List (List Int)} {r : List Int} {H : Nat → Option Addr × Nat} {g c g3 c3 : Nat} {x : Int} (h : Nb w0 w (.slice (some ⟨g, 0, none⟩) (M.length + 1) c) (M ++ [r]) H) (hW : Ext [] w W) (hX : Ext (Value.slice (H M.length).1 r.length (H M.length).2).ownBlock.toList W W2)
    (ho : W2.ownsRow w0.heap.size 3 1 (.slice (some ⟨g3, 0, none⟩) (r.length + 1) c3) (r.length + 1) (r.map (Value.int .i64) ++ [.int .i64 x])) (hat : (Value.slice (H M.length).1 r.length (H M.length).2).ownBlock = some g3 ∨ w.heap.size ≤ g3) :
    Nb w0 (W2.setCell ⟨g, M.length, none⟩ (.slice (some ⟨g3, 0, none⟩) (r.length + 1) c3)) (.slice (some ⟨g, 0, none⟩) (M.length + 1) c) (M ++ [r ++ [x]]) (fun i => if i = M.length then (some ⟨g3, 0, none⟩, c3) else H i) := by
  have hl : lsAt (M ++ [r]) M.length = r := by rw [lsAt_snoc, if_pos rfl]
  have hl2 : lsAt (M ++ [r ++ [x]]) M.length = r ++ [x] := by rw [lsAt_snoc, if_pos rfl]
  have hls : ∀ i, i < M.length → lsAt (M ++ [r ++ [x]]) i = lsAt (M ++ [r]) i := fun i hi => by rw [lsAt_snoc, lsAt_snoc, if_neg (by omega), if_neg (by omega)]
  have hrow := h.row
  simp only [List.length_append, List.length_singleton] at hrow
  have hlastv : rv (M ++ [r]) H M.length = .slice (H M.length).1 r.length (H M.length).2 := by unfold rv; rw [hl]
  have hoL : w.ownsRow w0.heap.size 3 1 (.slice (H M.length).1 r.length (H M.length).2) r.length (r.map (Value.int .i64)) := by
    have hf := h.fs M.length (by simp)
    rwa [hl] at hf
  have h1 : W2.ownsRow w0.heap.size 23 1 (.slice (some ⟨g, 0, none⟩) (M.length + 1) c) (M.length + 1) (rowsN (M ++ [r]) H (M.length + 1)) := by
    have q1 := own_keep0 hrow hW
    have q2 := own_keep0 hoL hW
    exact own_keep q1 hX (own_apart q1 q2 (by decide))
  have hS := Ext.setCell [g] W2 ⟨g, M.length, none⟩ (.slice (some ⟨g3, 0, none⟩) (r.length + 1) c3) (by simp)
  have hg3 : g3 ≠ g := fun e => by
    obtain ⟨cur, hc⟩ := own_at ho (q := g3) rfl
    obtain ⟨cur', hc'⟩ := own_at h1 (q := g) rfl
    exact row_ne hc hc' (by decide) e
  refine ⟨?_, fun i hi => ?_, fun i j hi hj hij k => ?_⟩
  · simp only [List.length_append, List.length_singleton]
    have q := (h1.stored M.length (.slice (some ⟨g3, 0, none⟩) (r.length + 1) c3)).1
    have e1 : (rowsN (M ++ [r]) H (M.length + 1)).set M.length (.slice (some ⟨g3, 0, none⟩) (r.length + 1) c3) = rowsN (M ++ [r ++ [x]]) (fun i => if i = M.length then (some ⟨g3, 0, none⟩, c3) else H i) (M.length + 1) := by
      rw [rowsN, rowsN, List.set_append_right _ _ (by rw [rowsN_len]; exact Nat.le_refl _), rowsN_len, hl2, rowsN_congM M.length (M := M ++ [r ++ [x]]) (M' := M ++ [r]) (H' := H) (fun i hi => ⟨hls i hi, by simp [Nat.ne_of_lt hi]⟩)]
      simp
    rw [e1] at q
    exact q
  · simp only [List.length_append, List.length_singleton] at hi
    by_cases e : i = M.length
    · subst e
      rw [hl2]
      simp only [if_true, List.length_append, List.length_singleton, List.map_append, List.map_cons, List.map_nil]
      exact own_keep ho hS (by simp [Value.ownBlock]; exact fun q => hg3 q)
    · rw [hls i (by omega)]
      simp only [e, if_false]
      have hf := h.fs i (by simp; omega)
      have q1 := own_keep0 hf hW
      have q2 := own_keep q1 hX (fun b hb q => by
        have hb2 : (Value.slice (H M.length).1 r.length (H M.length).2).ownBlock = some b := by simpa using hb
        exact h.ap i M.length (by simp; omega) (by simp) e b q (by rw [hlastv]; exact hb2))
      exact own_keep q2 hS (by
        have := own_apart q2 h1 (by decide) g (by simp [Value.ownBlock])
        simpa using this)
  · simp only [List.length_append, List.length_singleton] at hi hj
    have key : ∀ i, i < M.length → ∀ k, (rv (M ++ [r]) H i).ownBlock = some k → k ≠ g3 := fun i hi k hk e => by
      subst e
      rcases hat with q | q
      · exact h.ap i M.length (by simp; omega) (by simp) (by omega) k hk (by rw [hlastv]; exact q)
      · have := (own_lt (h.fs i (by simp; omega)) k hk).2; omega
    by_cases e : i = M.length
    · subst e
      have hj2 : j < M.length := by omega
      rw [rv_cong (M := M ++ [r ++ [x]]) (M' := M ++ [r]) (H' := H) (i := j) (hls j hj2) (by simp [Nat.ne_of_lt hj2])]
      intro q q2
      simp only [rv, if_true, Value.ownBlock, Option.some.injEq] at q
      exact key j hj2 k q2 q.symm
    · have hi2 : i < M.length := by omega
      rw [rv_cong (M := M ++ [r ++ [x]]) (M' := M ++ [r]) (H' := H) (i := i) (hls i hi2) (by simp [e])]
      by_cases e' : j = M.length
      · subst e'
        intro q q2
        simp only [rv, if_true, Value.ownBlock, Option.some.injEq] at q2
        exact key i hi2 k q q2.symm
      · have hj2 : j < M.length := by omega
        rw [rv_cong (M := M ++ [r ++ [x]]) (M' := M ++ [r]) (H' := H) (i := j) (hls j hj2) (by simp [e'])]
        exact h.ap i j (by simp; omega) (by simp; omega) hij k

end Go.Proofs.Ytfgdoehiocgkhaa
