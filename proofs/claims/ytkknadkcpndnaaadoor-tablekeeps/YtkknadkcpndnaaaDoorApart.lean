/-
  What the statements' own look at memory (Book.Apart) does with lists that lie apart; no statement is proved here.
-/
import Derived.Test.YtkknadkcpndnaaaDoorPrs
namespace Go.Proofs.YtkknadkcpndnaaaDoor.Ap
open Go.ChangeShapes Go.WideShapes Go.ChangeAt Go.RowKit

/-! ### a slice of one-cell elements at the head of a block, and append -/

/-- The values xs at the head of block b of type e, with room for c. -/
def Own1 (w : World) (e : TypeId) (b c : Nat) (xs : List Value) : Prop :=
  (∃ cur : Array Value, w.heap[b]? = some (.cells cur e (0, 0)) ∧ cur.size = c ∧ xs.length ≤ c ∧ cur.toList.take xs.length = xs) ∧ c ≤ maxLen

theorem Own1.lt {w : World} {e : TypeId} {b c : Nat} {xs : List Value} (h : Own1 w e b c xs) : b < w.heap.size := by
  obtain ⟨⟨cur, h1, _⟩, _⟩ := h; exact lt_of_heap h1
theorem Own1.keep {S : List Nat} {w w' : World} {e : TypeId} {b c : Nat} {xs : List Value} (h : Own1 w e b c xs) (x : Ext S w w') (hs : b ∉ S) : Own1 w' e b c xs := by
  obtain ⟨⟨cur, h1, h2⟩, h3⟩ := h
  exact ⟨⟨cur, Ext.keep x h1 hs, h2⟩, h3⟩
theorem Own1.cell {w : World} {e : TypeId} {b c : Nat} {xs : List Value} (h : Own1 w e b c xs) (j : Nat) (hj : j < xs.length) : w.cell? ⟨b, j, none⟩ = xs[j]? := by
  obtain ⟨⟨cur, h1, h2, h3, h4⟩, _⟩ := h
  rw [cell_of_row w b j _ _ _ h1, ← h4, List.getElem?_take, if_pos hj]; simp
theorem Own1.frozen {w : World} {e : TypeId} {b c : Nat} {xs : List Value} (h : Own1 w e b c xs) (j : Nat) : w.frozen? ⟨b, j, none⟩ = false := by
  obtain ⟨⟨cur, h1, _⟩, _⟩ := h
  exact frozen_of_row w b j _ _ h1
theorem Own1.set {w : World} {e : TypeId} {b c : Nat} {xs : List Value} (h : Own1 w e b c xs) (j : Nat) (v : Value) : Own1 (w.setCell ⟨b, j, none⟩ v) e b c (xs.set j v) := by
  obtain ⟨⟨cur, h1, h2, h3, h4⟩, h5⟩ := h
  refine ⟨⟨cur.setIfInBounds j v, heap_setCell_same w b j _ _ _ h1, by simp [h2], by simpa using h3, ?_⟩, h5⟩
  rw [List.length_set, Array.toList_setIfInBounds, List.take_set, h4]

/-- A slice value of such elements: nil, or at the head of a block. -/
def Hv (w : World) (e : TypeId) (v : Value) (xs : List Value) : Prop := (v = .slice none 0 0 ∧ xs = []) ∨ ∃ b c, v = .slice (some ⟨b, 0, none⟩) xs.length c ∧ Own1 w e b c xs

theorem run_append1 {P : Program} (w : World) (t ty e : TypeId) (i : TypeInfo) (z : Value) (B : Nat) (ht : P.underlying t = some (.slice e)) (hi : P.info? e = some i) (hz : i.zero = some z) (hs : i.size = 1) (hB : i.bytes = B) (hzs : z.cells.size = 1)
    (v : Value) (xs : List Value) (hv : Hv w e v xs) (a : Addr) (x : Value) (hx : w.cell? (a.add 0) = some x) (h1 : x.oneCell' = true) (c : Nat) (hb : (xs.length + 1) * B ≤ 140737488355328) (hB0 : 0 < B) :
    ∃ b' c' w', (Builtin.append_ #[t, t] ty #[v, .slice (some a) 1 c]).run P w = .ok (.slice (some ⟨b', 0, none⟩) (xs.length + 1) c') w' ∧ Own1 w' e b' c' (xs ++ [x]) ∧
      ((v = .slice (some ⟨b', 0, none⟩) xs.length c' ∧ Ext [b'] w w') ∨ (b' = w.heap.size ∧ Ext [] w w')) := by
  have hn1 : xs.length + 1 ≤ 140737488355328 := Nat.le_trans (Nat.le_mul_of_pos_right _ hB0) hb
  have hnews : ∀ j u, [x][j]? = some u → w.cell? (a.add j) = some u := by
    intro j u hu
    cases j with
    | zero => simp at hu; rw [hx, hu]
    | succ j => simp at hu
  have grown : ∀ old, old < xs.length + 1 → Own1 (w.drew.alloc (.cells (xs.toArray ++ [x].toArray ++ Builtin.zeroCells z.cells (grownCap w (xs.length + 1) old e - (xs.length + 1))) e)) e w.heap.size (grownCap w (xs.length + 1) old e) (xs ++ [x]) ∧
      Ext [] w (w.drew.alloc (.cells (xs.toArray ++ [x].toArray ++ Builtin.zeroCells z.cells (grownCap w (xs.length + 1) old e - (xs.length + 1))) e)) := by
    intro old _
    have hge := grownCap_ge w (xs.length + 1) old e
    refine ⟨⟨⟨_, heap_alloc_new w.drew _, ?_, by simpa using hge, ?_⟩, grownCap_le_maxLen w _ old e (by unfold maxLen; omega)⟩, (Ext.drew [] w).trans (Ext.alloc [] _ _)⟩
    · simp only [Array.size_append, List.size_toArray, size_zeroCells, hzs, List.length_cons, List.length_nil]
      omega
    · simp only [Array.toList_append, List.append_assoc]
      rw [← List.append_assoc]
      exact List.take_left
  rcases hv with ⟨rfl, rfl⟩ | ⟨b, cp, rfl, hO⟩
  · have hr := run_append_nil (P := P) w t ty e i z ht hi hz a 1 c [x] (by simp [hs]) hnews (by omega) (by omega) (by rw [hB]; simp at hb; omega)
    have hg := grown 0 (by simp)
    simp only [List.length_nil, Nat.zero_add, List.nil_append, Array.empty_append] at hg ⊢
    exact ⟨_, _, _, hr, hg.1, .inr ⟨rfl, hg.2⟩⟩
  · obtain ⟨⟨cur, h2, h3, h4, h5⟩, h6⟩ := id hO
    by_cases hroom : xs.length + 1 ≤ cp
    · have hr := run_append_room (P := P) w t ty e i ht hi b xs.length cp cur h2 a 1 c [x] (by simp [hs]) hnews (by simpa using h1) hroom (by rw [hs]; simp; omega)
      rw [hs, Nat.mul_one] at hr
      refine ⟨_, _, _, hr, ⟨⟨_, setRow_heap w b cur _ e _ h2, ?_, by simpa using hroom, ?_⟩, h6⟩, .inl ⟨rfl, Ext.setRow _ _ _ _ (by simp)⟩⟩
      · simp; omega
      · rw [h5]
        exact List.take_left
    · have hr := run_append_grow (P := P) w t ty e i z ht hi hz ⟨b, 0, none⟩ xs.length cp xs (by simp [hs]) (fun j u hu => by
        have hj : j < xs.length := (List.getElem?_eq_some_iff.1 hu).1
        rw [Addr.add_lit, Nat.zero_add, hO.cell j hj, hu]) a 1 c [x] (by simp [hs]) hnews (by omega) (by omega) (growslice_fits (by omega) (by rw [hB]; exact hb))
      have hg := grown cp (by omega)
      exact ⟨_, _, _, hr, hg.1, .inr ⟨rfl, hg.2⟩⟩

/-! ### lists that lie apart -/

/-- The value of a list: nil, or n elements at the head of block b with room for c. -/
def iv : Option (Nat × Nat × Nat) → Value
  | none => .slice none 0 0
  | some (b, n, c) => .slice (some ⟨b, 0, none⟩) n c
def ilen : Option (Nat × Nat × Nat) → Nat
  | none => 0
  | some (_, n, _) => n

/-- n lists, whose values lie from the head of block h on, each in a block of its own. -/
structure Bk (e : TypeId) (w : World) (h n : Nat) (it : Nat → Option (Nat × Nat × Nat)) : Prop where
  head : ∀ i, i < n → w.cell? ⟨h, i, none⟩ = some (iv (it i))
  mine : ∀ i b l c, i < n → it i = some (b, l, c) → (∃ xs, xs.length = l ∧ Own1 w e b c xs) ∧ b ≠ h ∧ l ≤ 1048576
  apart : ∀ i j b l c b' l' c', i < n → j < n → it i = some (b, l, c) → it j = some (b', l', c') → i ≠ j → b ≠ b'

/-- The blocks of the lists. -/
def blks (n : Nat) (it : Nat → Option (Nat × Nat × Nat)) : List Nat := (List.range n).filterMap fun i => (it i).map (·.1)
theorem mem_blks {n : Nat} {it : Nat → Option (Nat × Nat × Nat)} {b : Nat} : b ∈ blks n it ↔ ∃ i l c, i < n ∧ it i = some (b, l, c) := by
  unfold blks
  simp only [List.mem_filterMap, List.mem_range, Option.map_eq_some_iff, Prod.exists]
  constructor
  · rintro ⟨i, hi, b', l, c, h, rfl⟩; exact ⟨i, l, c, hi, h⟩
  · rintro ⟨i, l, c, hi, h⟩; exact ⟨i, hi, b, l, c, h, rfl⟩

/-- n elements of block b are those of f. -/
def Full (w : World) (b n : Nat) (x : Nat → Value) : Prop := ∀ j, j < n → w.cell? ⟨b, j, none⟩ = some (x j)
theorem Full.keep {S : List Nat} {w w' : World} {b n : Nat} {x : Nat → Value} (h : Full w b n x) (e : Ext S w w') (hs : b ∉ S) : Full w' b n x := fun j hj => by
  have := h j hj
  exact (World.cell?_of_block (e.block b (block_lt_of_cell this) hs)).trans this

/-- The grown lists so far: their values lie in a slice of the call's own (or nil), and each is full of its mark. -/
structure Gs (es : TypeId) (mv : Nat → Nat → Value) (w0 w : World) (it : Nat → Option (Nat × Nat × Nat)) (i : Nat) (gv : Value) (G : Nat → Nat × Nat) : Prop where
  val : Hv w es gv ((List.range i).map fun j => .slice (some ⟨(G j).1, 0, none⟩) (ilen (it j) + 9) (G j).2)
  new : ∀ b n c, gv = .slice (some ⟨b, 0, none⟩) n c → w0.heap.size ≤ b
  full : ∀ j, j < i → Full w (G j).1 (ilen (it j) + 9) (mv j)
  where_ : ∀ j, j < i → (∃ l c, it j = some ((G j).1, l, c)) ∨ w0.heap.size ≤ (G j).1
  far : ∀ j b n c, j < i → gv = .slice (some ⟨b, 0, none⟩) n c → (G j).1 ≠ b

theorem _root_.Go.Proofs.YtkknadkcpndnaaaDoor.Ext.atCell {S : List Nat} {w w' : World} (h : Ext S w w') {a : Addr} {v : Value} (hc : w.cell? a = some v) (hs : a.block ∉ S) : w'.cell? a = some v :=
  (World.cell?_of_block (h.block a.block (block_lt_of_cell hc) hs)).trans hc

theorem Own1.take {w : World} {e : TypeId} {b c : Nat} {xs : List Value} (h : Own1 w e b c xs) (n : Nat) : Own1 w e b c (xs.take n) := by
  obtain ⟨⟨cur, h1, h2, h3, h4⟩, h5⟩ := h
  refine ⟨⟨cur, h1, h2, by simp; omega, ?_⟩, h5⟩
  rw [List.length_take, show cur.toList.take (min n xs.length) = (cur.toList.take xs.length).take n from by rw [List.take_take], h4]

/-- One list more has been marked and grown. -/
theorem gs_step {w w2 w4 w5 : World} {h n i : Nat} {e es : TypeId} {mv : Nat → Nat → Value} {it : Nat → Option (Nat × Nat × Nat)} {gv : Value} {G : Nat → Nat × Nat} {S4 : List Nat} {gb gc b' c' : Nat}
    (hB : Bk e w h n it) (hB2 : Bk e w2 h n it) (hE2 : Ext (blks n it) w w2) (hG : Gs es mv w w2 it i gv G) (hin : i < n) (hE4 : Ext S4 w2 w4) (hS4 : ∀ x ∈ S4, ∃ l c, it i = some (x, l, c))
    (hown : ∀ b l c, it i = some (b, l, c) → ∃ ys, ys.length = l ∧ Own1 w4 e b c ys) (hfull : Full w4 gb (ilen (it i) + 9) (mv i)) (hgw : (∃ l c, it i = some (gb, l, c)) ∨ w2.heap.size ≤ gb) (hgl : gb < w4.heap.size)
    (hO5 : Own1 w5 es b' c' (((List.range i).map fun j => .slice (some ⟨(G j).1, 0, none⟩) (ilen (it j) + 9) (G j).2) ++ [.slice (some ⟨gb, 0, none⟩) (ilen (it i) + 9) gc]))
    (hpl : (gv = .slice (some ⟨b', 0, none⟩) i c' ∧ Ext [b'] w4 w5) ∨ (b' = w4.heap.size ∧ Ext [] w4 w5)) :
    Bk e w5 h n it ∧ Ext (blks n it) w w5 ∧ Gs es mv w w5 it (i + 1) (.slice (some ⟨b', 0, none⟩) (i + 1) c') (fun j => if j = i then (gb, gc) else G j) := by
  have hb'w : w.heap.size ≤ b' := by
    rcases hpl with ⟨hg, _⟩ | ⟨rfl, _⟩
    · exact hG.new _ _ _ hg
    · exact Nat.le_trans hE2.size hE4.size
  have hE5 : Ext [b'] w4 w5 := by
    rcases hpl with ⟨_, hE⟩ | ⟨_, hE⟩
    · exact hE
    · exact hE.mono (by simp)
  have hblt : ∀ j b l c, j < n → it j = some (b, l, c) → b < w.heap.size := by
    intro j b l c hj hit
    obtain ⟨⟨xs, _, hO⟩, _⟩ := hB.mine j b l c hj hit
    exact hO.lt
  have hhlt : h < w.heap.size := block_lt_of_cell (hB.head i hin)
  have hS4n : ∀ x, x ∈ S4 → ∃ l c, it i = some (x, l, c) := hS4
  have hGb : ∀ j, j < i → (G j).1 ≠ b' ∧ (G j).1 ∉ S4 := by
    intro j hj
    have hf := hG.full j hj
    have hlt : (G j).1 < w2.heap.size := block_lt_of_cell (hf 0 (by omega))
    constructor
    · rcases hpl with ⟨hg, _⟩ | ⟨rfl, _⟩
      · exact hG.far j _ _ _ hj hg
      · have := hE4.size; omega
    · intro hx
      obtain ⟨l, c, hit⟩ := hS4n _ hx
      rcases hG.where_ j hj with ⟨l', c', hit'⟩ | hw
      · exact hB.apart j i _ _ _ _ _ _ (by omega) hin hit' hit (by omega) rfl
      · have := hblt i _ _ _ hin hit; omega
  refine ⟨⟨?_, ?_, hB.apart⟩, ?_, ⟨?_, ?_, ?_, ?_, ?_⟩⟩
  · intro j hj
    refine hE5.atCell (hE4.atCell (hB2.head j hj) ?_) (by simp; omega)
    intro hx
    obtain ⟨l, c, hit⟩ := hS4n _ hx
    exact (hB.mine i _ _ _ hin hit).2.1 rfl
  · intro j b l c hj hit
    obtain ⟨⟨xs, hxl, hO⟩, hbh, hl⟩ := hB2.mine j b l c hj hit
    refine ⟨?_, hbh, hl⟩
    have hb := hblt j b l c hj hit
    by_cases eq : j = i
    · subst eq
      obtain ⟨ys, hyl, hO4⟩ := hown b l c hit
      exact ⟨ys, hyl, hO4.keep hE5 (by simp; omega)⟩
    · refine ⟨xs, hxl, (hO.keep hE4 ?_).keep hE5 (by simp; omega)⟩
      intro hx
      obtain ⟨l', c', hit'⟩ := hS4n _ hx
      exact hB.apart j i _ _ _ _ _ _ hj hin hit hit' eq rfl
  · have e4 : Ext (b' :: blks n it) w2 w4 := hE4.mono (fun x hx => by
      obtain ⟨l, c, hit⟩ := hS4n _ hx
      exact List.mem_cons_of_mem _ (mem_blks.2 ⟨i, l, c, hin, hit⟩))
    refine (((hE2.mono (fun x hx => List.mem_cons_of_mem _ hx)).trans e4).trans (hE5.mono (by simp))).drop ?_
    intro x hx
    rcases List.mem_cons.1 hx with rfl | hx
    · exact .inr hb'w
    · exact .inl hx
  · right
    refine ⟨b', c', ?_, ?_⟩
    · simp
    · have e : ((List.range (i + 1)).map fun j => Value.slice (some ⟨(if j = i then (gb, gc) else G j).1, 0, none⟩) (ilen (it j) + 9) (if j = i then (gb, gc) else G j).2) = ((List.range i).map fun j => .slice (some ⟨(G j).1, 0, none⟩) (ilen (it j) + 9) (G j).2) ++ [.slice (some ⟨gb, 0, none⟩) (ilen (it i) + 9) gc] := by
        rw [List.range_succ, List.map_append]
        congr 1
        · apply List.map_congr_left
          intro j hj
          have : j ≠ i := by have := List.mem_range.1 hj; omega
          simp [this]
        · simp
      rw [e]; exact hO5
  · intro b n' c hg
    simp only [Value.slice.injEq, Option.some.injEq, Addr.mk.injEq, and_true] at hg
    rw [← hg.1]; exact hb'w
  · intro j hj
    by_cases eq : j = i
    · subst eq
      simp only [if_true]
      refine hfull.keep hE5 ?_
      rcases hgw with ⟨l, c, hit⟩ | hw
      · have := hblt j _ _ _ hin hit; simp; omega
      · rcases hpl with ⟨hg, _⟩ | ⟨rfl, _⟩
        · rcases hG.val with ⟨hv, _⟩ | ⟨b, c, hv, hO⟩
          · rw [hv] at hg; simp at hg
          · rw [hv] at hg
            simp only [Value.slice.injEq, Option.some.injEq, Addr.mk.injEq, and_true] at hg
            have := hO.lt
            simp; omega
        · simp; omega
    · simp only [if_neg eq]
      have := hGb j (by omega)
      exact ((hG.full j (by omega)).keep hE4 this.2).keep hE5 (by simpa using this.1)
  · intro j hj
    by_cases eq : j = i
    · subst eq
      simp only [if_true]
      rcases hgw with hit | hw
      · exact .inl hit
      · exact .inr (Nat.le_trans hE2.size hw)
    · simp only [if_neg eq]
      exact hG.where_ j (by omega)
  · intro j b n' c hj hg
    simp only [Value.slice.injEq, Option.some.injEq, Addr.mk.injEq, and_true] at hg
    rw [← hg.1]
    by_cases eq : j = i
    · subst eq
      simp only [if_true]
      rcases hgw with ⟨l, c, hit⟩ | hw
      · have := hblt j _ _ _ hin hit; omega
      · rcases hpl with ⟨hg, _⟩ | ⟨rfl, _⟩
        · rcases hG.val with ⟨hv, _⟩ | ⟨b, c, hv, hO⟩
          · rw [hv] at hg; simp at hg
          · rw [hv] at hg
            simp only [Value.slice.injEq, Option.some.injEq, Addr.mk.injEq, and_true] at hg
            have := hO.lt
            omega
        · omega
    · simp only [if_neg eq]
      exact (hGb j (by omega)).1

end Go.Proofs.YtkknadkcpndnaaaDoor.Ap
