/-
  Two reads of a heap, laid into a book: they lie apart; no statement is proved here.
-/
import Derived.Test.YtlajjcboahflbaaDoorKeepH
import Derived.Test.YtlajjcboahflbaaDoorAq
import Derived.Sort.BigQuietIn
namespace Go.Proofs.YtlajjcboahflbaaDoor
open Go.RowKit

theorem Row.own1 {w : World} {g : Nat} {L : List Int} (h : Row w g L) (hm : L.length ≤ maxLen) : Bo.Own1 w 5 g L.length (L.map (Value.int .u8)) :=
  ⟨⟨_, h, by simp, by simp, by rw [List.length_map]; exact List.take_of_length_le (by simp)⟩, hm⟩
def io (xl : Nat) (r : Option Addr) : Option (Nat × Nat × Nat) := r.map fun a => (a.block, xl, xl)
theorem io_iv {u w : World} {r : Option Addr} {X : List Int} {xl : Nat} (hl : X.length = xl) (h : Bs u w r X) : Value.slice r xl xl = Bo.iv (io xl r) := by
  rcases h with ⟨rfl, rfl⟩ | ⟨g, rfl, _, _⟩
  · simp at hl; subst hl; rfl
  · rfl
theorem io_mine {u w w' : World} {r : Option Addr} {X : List Int} {xl : Nat} (hl : X.length = xl) (hN : xl ≤ 262400) (h : Bs u w r X) (hE : Ext [] w w') {b l c : Nat} (hi : io xl r = some (b, l, c)) : (∃ xs : List Value, xs.length = l ∧ Bo.Own1 w' 5 b c xs) ∧ b < w.heap.size ∧ u.heap.size ≤ b ∧ l = xl := by
  rcases h with ⟨rfl, rfl⟩ | ⟨g, rfl, hg, hr⟩
  · simp [io] at hi
  · simp only [io, Option.map_some, Option.some.injEq, Prod.mk.injEq] at hi
    obtain ⟨rfl, rfl, rfl⟩ := hi
    have hk : Row w' g X := hE.keep hr (by simp)
    have := hk.own1 (by unfold maxLen; omega)
    rw [hl] at this
    exact ⟨⟨X.map (Value.int .u8), by simpa using hl, this⟩, lt_of_heap hr, hg, rfl⟩

/-- The answer true; the blocks between have turned, none else. -/
def ApPost (u0 u2 w : World) (e : Ending) (w' : World) : Prop := e = .returned (.bool true) ∧ ∃ S : List Nat, (∀ x ∈ S, u0.heap.size ≤ x ∧ x < u2.heap.size) ∧ Ext S w w'
theorem book_apart {u0 u1 u2 w : World} {ra rb : Option Addr} {X : List Int} {xl : Nat} (hl : X.length = xl) (hN : xl ≤ 262400) (h1 : Bs u0 u1 ra X) (h2 : Bs u1 u2 rb X) (h3 : Bs u0 w ra X) (h4 : Bs u1 w rb X) (hu : u0.heap.size ≤ u1.heap.size) (hv : u1.heap.size ≤ u2.heap.size) :
    Calls Tryd.prog 26 #[.pointer (some ⟨w.heap.size + 1, 0, none⟩)] ((w.alloc (.cells #[.slice ra xl xl, .slice rb xl xl] 40)).alloc (.cells #[.slice none 0 0, .slice none 0 0, .slice (some ⟨w.heap.size, 0, none⟩) 2 2, .slice none 0 0] 70))
      (ApPost u0 u2 ((w.alloc (.cells #[.slice ra xl xl, .slice rb xl xl] 40)).alloc (.cells #[.slice none 0 0, .slice none 0 0, .slice (some ⟨w.heap.size, 0, none⟩) 2 2, .slice none 0 0] 70))) := by
  obtain ⟨W, hW⟩ : ∃ W, W = ((w.alloc (.cells #[.slice ra xl xl, .slice rb xl xl] 40)).alloc (.cells #[.slice none 0 0, .slice none 0 0, .slice (some ⟨w.heap.size, 0, none⟩) 2 2, .slice none 0 0] 70)) := ⟨_, rfl⟩
  have hE : Ext [] w W := by rw [hW]; exact (Ext.alloc [] _ _).trans (Ext.alloc [] _ _)
  have e1 : W.heap[w.heap.size]? = some (.cells #[.slice ra xl xl, .slice rb xl xl] 40 (0, 0)) := by rw [hW]; exact (Ext.alloc [] _ _).keep (heap_alloc_new w _) (by simp)
  have e2 : W.heap[w.heap.size + 1]? = some (.cells #[.slice none 0 0, .slice none 0 0, .slice (some ⟨w.heap.size, 0, none⟩) 2 2, .slice none 0 0] 70 (0, 0)) := by
    rw [hW]; have := heap_alloc_new (w.alloc (.cells #[.slice ra xl xl, .slice rb xl xl] 40)) (.cells #[.slice none 0 0, .slice none 0 0, .slice (some ⟨w.heap.size, 0, none⟩) 2 2, .slice none 0 0] 70)
    rwa [World.size_alloc] at this
  rw [← hW]
  clear hW
  have low : ∀ {i b l c : Nat}, (if i = 0 then io xl ra else io xl rb) = some (b, l, c) → u0.heap.size ≤ b ∧ b < u2.heap.size ∧ b < w.heap.size := fun {i b l c} hi => by
    split at hi
    · have a1 := io_mine hl hN h1 (Ext.refl [] _) hi
      have a2 := io_mine hl hN h3 (Ext.refl [] _) hi
      omega
    · have a1 := io_mine hl hN h2 (Ext.refl [] _) hi
      have a2 := io_mine hl hN h4 (Ext.refl [] _) hi
      omega
  have hB : Bo.Bk W w.heap.size 2 (fun j => if j = 0 then io xl ra else io xl rb) := by
    refine ⟨?_, ?_, ?_⟩
    · intro j hj
      rw [cell_of_row _ _ j _ _ _ e1]
      have : j = 0 ∨ j = 1 := by omega
      rcases this with rfl | rfl
      · simp [io_iv hl h3]
      · simp [io_iv hl h4]
    · intro j b l c hj hi
      have hb := low hi
      split at hi
      · have a := io_mine hl hN h3 hE hi
        exact ⟨a.1, by omega, by omega⟩
      · have a := io_mine hl hN h4 hE hi
        exact ⟨a.1, by omega, by omega⟩
    · intro i j b l c b' l' c' hi hj q1 q2 hij
      have : (i = 0 ∧ j = 1) ∨ (i = 1 ∧ j = 0) := by omega
      rcases this with ⟨rfl, rfl⟩ | ⟨rfl, rfl⟩
      · have a1 := io_mine hl hN h1 (Ext.refl [] _) (by simpa using q1)
        have a2 := io_mine hl hN h2 (Ext.refl [] _) (by simpa using q2)
        omega
      · have a1 := io_mine hl hN h1 (Ext.refl [] _) (by simpa using q2)
        have a2 := io_mine hl hN h2 (Ext.refl [] _) (by simpa using q1)
        omega
  refine (Bo.apart_any (w.heap.size + 1) w.heap.size 2 _ W (by omega) hB (by rw [cell_of_row _ _ 0 _ _ _ e2]; rfl) (by rw [cell_of_row _ _ 1 _ _ _ e2]; rfl) (by rw [cell_of_row _ _ 2 _ _ _ e2]; rfl) (by rw [cell_of_row _ _ 3 _ _ _ e2]; rfl) (fun hx => ?_)).mono ?_
  · obtain ⟨i, l, c, hi, hx⟩ := Bo.mem_blks.1 hx
    have := low hx
    omega
  · rintro e w' ⟨rfl, hx⟩
    refine ⟨rfl, _, fun x hx => ?_, hx⟩
    obtain ⟨i, l, c, hi, hx⟩ := Bo.mem_blks.1 hx
    have := low hx
    exact ⟨this.1, this.2.1⟩

theorem wpListIn_append_run {F : Fence} {n : Nat} {P : Program} {w w' : World} {ops : Array Oper} {rest : List Oper} {o : Oper} {a : Act} {Q : Exit → Act → World → Prop} (hgd : o.guard = none) (s x : Operand) (t : TypeId)
    (ho : o.op = .call { callee := .builtin .append, args := #[s, x], argTypes := #[t, t] }) (vs vx v' : Value) (hs : a.eval s = vs) (hx : a.eval x = vx)
    (hr : (Builtin.append_ #[t, t] o.type #[vs, vx]).run P w = .ok v' w') (h : wpListIn F n P ops Q rest (a.put o.dst v') w') : wpListIn F n P ops Q (o :: rest) a w := by
  refine wpListIn_plain hgd fun K hK => ?_
  unfold Oper.wpIn
  refine ⟨by simp [Oper.about, ho, resolve, Target.leads, Sem.run_pure], ?_⟩
  rw [Oper.semAt_plain F _ _ (by rw [ho]; intro c hc'; cases hc')]
  simp [execOp, ho, resolve, invoke, builtin, hs, hx, hr, Result.andThen]
  exact hK _ _ h
end Go.Proofs.YtlajjcboahflbaaDoor
