/-
  Worlds, slices of one's own and lists of runs as they lie in memory; no statement is proved here.
-/
import Derived.Test.YtlajjcboahflbaaDoorRows
import Derived.WalkKit
import Derived.ProofKit
import Derived.Laws.CopyOwn
import Derived.Laws.OwnMore
import Derived.Deep.QuietTactic
import Derived.BigQuiet
import Derived.Deep.WholeRow
import Derived.Deep.RegionHeld3
import Derived.RangeFuncNested
import Derived.RangeFuncBound
import Derived.RangeFuncCalls
import Derived.RangeFuncLeaves
import Derived.Shelf.Abstract
import Derived.Shelf.RegionOpen
import Derived.OwnWalkIn
import Derived.TacticsInMore
import Derived.LoopNIn
import Derived.LoopIn
import Derived.Maps.AppendAt
namespace Go.Proofs.YtlajjcboahflbaaDoor
open Go.RowKit

/-! ### contracts met in a walk -/

/-- A callee that answers v and leaves the world as it is. -/
theorem met {P : Program} {f : FuncId} {args : Array Value} {w : World} {v : Value} {K : Ending → World → Prop} (h : Calls P f args w fun e w' => e = .returned v ∧ w' = w) (hK : K (.returned v) w) : Calls P f args w K :=
  h.mono (by rintro _ _ ⟨rfl, rfl⟩; exact hK)

theorem hid {p : Prop} (h : p) : Hid p := h

/-! ### worlds -/

/-- The world w' is as w was but for the blocks of S and for what is new. -/
structure Ext (S : List Nat) (w w' : World) : Prop where
  os : w'.os = w.os
  tape : w'.tape = w.tape
  output : w'.output = w.output
  size : w.heap.size ≤ w'.heap.size
  block : ∀ k, k < w.heap.size → k ∉ S → w'.heap[k]? = w.heap[k]?

theorem Ext.refl (S : List Nat) (w : World) : Ext S w w := ⟨rfl, rfl, rfl, Nat.le_refl _, fun _ _ _ => rfl⟩
theorem Ext.trans {S : List Nat} {a b c : World} (h : Ext S a b) (k : Ext S b c) : Ext S a c :=
  ⟨k.os.trans h.os, k.tape.trans h.tape, k.output.trans h.output, Nat.le_trans h.size k.size, fun i hi hs => (k.block i (Nat.lt_of_lt_of_le hi h.size) hs).trans (h.block i hi hs)⟩
theorem Ext.mono {S T : List Nat} {a b : World} (h : Ext S a b) (hs : ∀ x ∈ S, x ∈ T) : Ext T a b :=
  ⟨h.os, h.tape, h.output, h.size, fun i hi hk => h.block i hi (fun q => hk (hs i q))⟩
/-- Blocks that are new need not be named. -/
theorem Ext.drop {S T : List Nat} {a b : World} (h : Ext S a b) (hs : ∀ x ∈ S, x ∈ T ∨ a.heap.size ≤ x) : Ext T a b :=
  ⟨h.os, h.tape, h.output, h.size, fun i hi hk => h.block i hi (fun q => by rcases hs i q with r | r; exact hk r; omega)⟩
theorem Ext.below {a b : World} (h : Ext [] a b) : Below a.heap.size a b := ⟨h.os, h.tape, h.output, h.size, fun k hk => h.block k hk (by simp)⟩
theorem Ext.drew (S : List Nat) (w : World) : Ext S w w.drew := ⟨rfl, rfl, rfl, Nat.le_refl _, fun _ _ _ => rfl⟩
theorem Ext.drewN (S : List Nat) (w : World) (n : Nat) : Ext S w (w.drewN n) := ⟨rfl, rfl, rfl, Nat.le_refl _, fun _ _ _ => rfl⟩
theorem Ext.alloc (S : List Nat) (w : World) (o : Obj) : Ext S w (w.alloc o) := ⟨rfl, rfl, rfl, by simp, fun k hk _ => Below.heap_alloc w o k hk⟩
theorem Ext.setCell (S : List Nat) (w : World) (a : Addr) (v : Value) (h : a.block ∈ S) : Ext S w (w.setCell a v) :=
  ⟨rfl, rfl, rfl, by simp, fun k _ hs => heap_setCell_other w a k v (fun e => hs (e ▸ h))⟩
theorem Ext.setRow (S : List Nat) (w : World) (g : Nat) (cs : Array Value) (h : g ∈ S) : Ext S w (w.setRow g cs) :=
  ⟨rfl, rfl, rfl, by simp, fun k _ hs => setRow_other w g k cs (fun e => hs (e ▸ h))⟩
theorem Ext.grown {S : List Nat} {w w' : World} {row : Option Nat} (hg : w.grownBy w' row) (h : ∀ k, row = some k → k ∈ S) : Ext S w w' :=
  ⟨hg.os, hg.tape, hg.output, hg.size, fun k hk hs => hg.block k hk (fun e => hs (h k e.symm))⟩
/-- Behind a step that turned only what is new since a. -/
theorem Ext.on {S : List Nat} {a b c : World} (h : Ext [] a b) (k : Ext S b c) (hs : ∀ x ∈ S, a.heap.size ≤ x) : Ext [] a c :=
  ((h.mono (by simp)).trans k).drop (fun x hx => .inr (hs x hx))

theorem lt_of_heap {w : World} {k : Nat} {o : Obj} (h : w.heap[k]? = some o) : k < w.heap.size := (Array.getElem?_eq_some_iff.1 h).1
theorem Ext.keep {S : List Nat} {w w' : World} (h : Ext S w w') {k : Nat} {o : Obj} (hk : w.heap[k]? = some o) (hs : k ∉ S) : w'.heap[k]? = some o :=
  (h.block k (lt_of_heap hk) hs).trans hk
theorem Ext.cell {S : List Nat} {w w' : World} (h : Ext S w w') {a : Addr} {v : Value} (hk : w.cell? a = some v) (hs : a.block ∉ S) : w'.cell? a = some v := by
  rw [← hk]
  exact World.cell?_of_block (h.block a.block (block_lt_of_cell hk) hs)

/-- The answer v, and nothing that was there has turned. -/
def SayPost (w : World) (v : Value) (e : Ending) (w' : World) : Prop := e = .returned v ∧ Ext [] w w'

theorem own_keep {S : List Nat} {w w' : World} {base : Nat} {e : TypeId} {s : Nat} {v : Value} {n : Nat} {xs : List Value} (h : w.ownsRow base e s v n xs) (x : Ext S w w') (hs : ∀ b ∈ S, v.ownBlock ≠ some b) : w'.ownsRow base e s v n xs := by
  refine ⟨h.1, ?_⟩
  rcases h.2 with h | ⟨g, cap, cur, rfl, h1, h2, h3⟩
  · exact .inl h
  · exact .inr ⟨g, cap, cur, rfl, h1, x.keep h2 (fun hg => hs g hg rfl), h3⟩
theorem own_keep0 {w w' : World} {base : Nat} {e : TypeId} {s : Nat} {v : Value} {n : Nat} {xs : List Value} (h : w.ownsRow base e s v n xs) (x : Ext [] w w') : w'.ownsRow base e s v n xs := own_keep h x (by simp)
theorem own_base {w : World} {base base' : Nat} {e : TypeId} {s : Nat} {v : Value} {n : Nat} {xs : List Value} (h : w.ownsRow base e s v n xs) (hb : base' ≤ base) : w.ownsRow base' e s v n xs := by
  refine ⟨h.1, ?_⟩
  rcases h.2 with h | ⟨g, cap, cur, h0, h1, h2⟩
  · exact .inl h
  · exact .inr ⟨g, cap, cur, h0, by omega, h2⟩
theorem own_nil (w : World) (base : Nat) (e : TypeId) (s : Nat) : w.ownsRow base e s (.slice none 0 0) 0 [] := ⟨by simp, .inl ⟨rfl, rfl⟩⟩

/-- The value is a slice. -/
theorem own_slice {w : World} {base : Nat} {e : TypeId} {s : Nat} {v : Value} {n : Nat} {xs : List Value} (h : w.ownsRow base e s v n xs) : ∃ a c, v = .slice a n c ∧ n ≤ c := by
  rcases h.2 with ⟨rfl, rfl⟩ | ⟨g, cap, cur, rfl, h1, h2, h3, _⟩
  · exact ⟨none, 0, rfl, Nat.le_refl _⟩
  · exact ⟨_, _, rfl, h3⟩
theorem own_lt {w : World} {base : Nat} {e : TypeId} {s n : Nat} {v : Value} {xs : List Value} (h : w.ownsRow base e s v n xs) : ∀ g, v.ownBlock = some g → base ≤ g ∧ g < w.heap.size := by
  intro g hg
  rcases h.2 with ⟨rfl, _⟩ | ⟨g', cap, cur, rfl, h1, h2, _⟩
  · simp [Value.ownBlock] at hg
  · simp [Value.ownBlock] at hg
    subst hg
    exact ⟨h1, lt_of_heap h2⟩

theorem info_parts {P : Program} {t : TypeId} {z : Value} {s b : Nat} (h : (P.info? t).map (fun i => (i.zero, i.size, i.bytes)) = some (some z, s, b)) : ∃ i, P.info? t = some i ∧ i.zero = some z ∧ i.size = s ∧ i.bytes = b := by
  cases hq : P.info? t with
  | none => simp [hq] at h
  | some i =>
    simp [hq] at h
    exact ⟨i, rfl, h.1, h.2.1, h.2.2⟩
/-- append, met by what its run is known to be. -/
theorem wpList_append_run {P : Program} {w w' : World} {ops : Array Oper} {rest : List Oper} {o : Oper} {a : Act} {Q : Exit → Act → World → Prop} (hgd : o.guard = none) (s x : Operand) (t : TypeId)
    (ho : o.op = .call { callee := .builtin .append, args := #[s, x], argTypes := #[t, t] }) (vs vx v' : Value) (hs : a.eval s = vs) (hx : a.eval x = vx)
    (hr : (Builtin.append_ #[t, t] o.type #[vs, vx]).run P w = .ok v' w') (h : wpList P ops Q rest (a.put o.dst v') w') : wpList P ops Q (o :: rest) a w := by
  refine wpList_plain hgd fun K hK => ?_
  unfold Oper.wp execOp
  simp only [ho, resolve, invoke, builtin, Sem.run_bind, Sem.run_pure, Result.andThen_ok, List.map_toArray, List.map_cons, List.map_nil, hs, hx, hr]
  exact hK _ _ h


theorem own_ne {w : World} {base : Nat} {e e' : TypeId} {s n : Nat} {v : Value} {xs : List Value} {cs : Array Value} {k : Nat} (h : w.ownsRow base e s v n xs) (hk : w.heap[k]? = some (.cells cs e' (0, 0))) (he : e' ≠ e) : v.ownBlock ≠ some k := by
  intro hv
  rcases h.2 with ⟨rfl, _⟩ | ⟨g, cap, cur, rfl, h1, h2, _⟩
  · simp [Value.ownBlock] at hv
  · simp [Value.ownBlock] at hv
    subst hv
    rw [hk] at h2
    simp at h2
    exact he h2.2
theorem below_ext {a b : World} (h : Below a.heap.size a b) : Ext [] a b := ⟨h.os, h.tape, h.output, h.size, fun k hk _ => h.block k hk⟩
theorem ext_grown {w w' : World} {v : Value} (hg : w.grownBy w' v.ownBlock) : Ext v.ownBlock.toList w w' := Ext.grown hg (by intro q hq; simp [hq])

theorem info3 : (Tryd.prog.info? 3).map (fun i => (i.zero, i.size, i.bytes)) = some (some (.int .i64 0), 1, 8) := by kernel_rfl
theorem info38 : (Tryd.prog.info? 38).map (fun i => (i.zero, i.size, i.bytes)) = some (some (.agg #[.int .i64 0, .int .i64 0, .bool false]), 3, 24) := by kernel_rfl

/-! ### runs -/

/-- A run. -/
structure Rn where
  s : Nat
  n : Nat
  u : Bool
deriving DecidableEq, Inhabited

def Rn.cells (r : Rn) : List Value := [.int .i64 r.s, .int .i64 r.n, .bool r.u]
def Rn.val (r : Rn) : Value := .agg #[.int .i64 r.s, .int .i64 r.n, .bool r.u]
def rcells (L : List Rn) : List Value := L.flatMap Rn.cells

theorem rcells_nil : rcells [] = [] := rfl
theorem rcells_append (A B : List Rn) : rcells (A ++ B) = rcells A ++ rcells B := by simp [rcells]
theorem rcells_cons (r : Rn) (B : List Rn) : rcells (r :: B) = r.cells ++ rcells B := by simp [rcells]
theorem rcells_one (r : Rn) : rcells [r] = r.cells := by simp [rcells]
theorem rcells_len : ∀ L : List Rn, (rcells L).length = L.length * 3
  | [] => rfl
  | r :: L => by rw [rcells_cons, List.length_append, rcells_len L]; simp [Rn.cells]; omega
theorem rcells_one' : ∀ (L : List Rn), ∀ v ∈ rcells L, v.oneCell' = true := by
  intro L v hv
  simp only [rcells, List.mem_flatMap, Rn.cells] at hv
  obtain ⟨r, _, h⟩ := hv
  simp at h
  rcases h with rfl | rfl | rfl <;> rfl

/-- Run i of a list. -/
def rnAt (L : List Rn) (i : Nat) : Rn := L.getD i default
theorem rnAt_get {L : List Rn} {i : Nat} (h : i < L.length) : L[i]? = some (rnAt L i) := by simp [rnAt, List.getD, h]
theorem rnAt_mem {L : List Rn} {i : Nat} (h : i < L.length) : rnAt L i ∈ L := by
  simp [rnAt, List.getD, h]

theorem rcells_get : ∀ (L : List Rn) (i j : Nat), i < L.length → j < 3 → (rcells L)[i * 3 + j]? = (rnAt L i).cells[j]?
  | [], i, j, h, _ => by simp at h
  | r :: L, 0, j, _, hj => by
    rw [rcells_cons, List.getElem?_append_left (by simp [Rn.cells]; omega)]
    simp [rnAt]
  | r :: L, i + 1, j, h, hj => by
    rw [rcells_cons, List.getElem?_append_right (by simp [Rn.cells]; omega)]
    have := rcells_get L i j (by simpa using h) hj
    simp only [Rn.cells, List.length_cons, List.length_nil] at this ⊢
    rw [show (i + 1) * 3 + j - (0 + 1 + 1 + 1) = i * 3 + j by omega, this]
    simp [rnAt]

/-- A list of runs of one's own. -/
def Lst (w : World) (v : Value) (L : List Rn) : Prop := w.ownsRow 0 38 3 v L.length (rcells L)

theorem Lst.keep {S : List Nat} {w w' : World} {v : Value} {L : List Rn} (h : Lst w v L) (x : Ext S w w') (hs : ∀ b ∈ S, v.ownBlock ≠ some b) : Lst w' v L := own_keep h x hs
theorem Lst.keep0 {w w' : World} {v : Value} {L : List Rn} (h : Lst w v L) (x : Ext [] w w') : Lst w' v L := own_keep0 h x
theorem lst_nil (w : World) : Lst w (.slice none 0 0) [] := own_nil _ _ _ _
theorem Lst.slice {w : World} {v : Value} {L : List Rn} (h : Lst w v L) : ∃ a c, v = .slice a L.length c ∧ L.length ≤ c := own_slice h
theorem Lst.at_ {w : World} {v : Value} {L : List Rn} (h : Lst w v L) (h0 : 0 < L.length) : ∃ g c, v = .slice (some ⟨g, 0, none⟩) L.length c ∧ L.length ≤ c ∧ c ≤ maxLen ∧ g < w.heap.size ∧
    ∀ i, i < L.length → w.cell? ⟨g, i * 3, none⟩ = some (.int .i64 (rnAt L i).s) ∧ w.cell? ⟨g, i * 3 + 1, none⟩ = some (.int .i64 (rnAt L i).n) ∧ w.cell? ⟨g, i * 3 + 2, none⟩ = some (.bool (rnAt L i).u) := by
  rcases h.2 with ⟨_, h2⟩ | ⟨g, cap, cur, h0, h1, h2, h3, h4, h5, h6⟩
  · omega
  · refine ⟨g, cap, h0, h3, h4, lt_of_heap h2, fun i hi => ?_⟩
    have key : ∀ j v, j < 3 → (rnAt L i).cells[j]? = some v → w.cell? ⟨g, i * 3 + j, none⟩ = some v := fun j v hj hv => by
      rw [cell_of_row w g _ _ _ _ h2]
      have : (cur.toList.take (L.length * 3))[i * 3 + j]? = cur[i * 3 + j]? := by
        rw [List.getElem?_take, if_pos (by omega)]; simp
      rw [← this, h6, rcells_get L i j hi hj, hv]
    exact ⟨key 0 _ (by omega) rfl, key 1 _ (by omega) rfl, key 2 _ (by omega) rfl⟩
theorem Lst.lt {w : World} {v : Value} {L : List Rn} (h : Lst w v L) : ∀ g, v.ownBlock = some g → g < w.heap.size := fun g hg => (own_lt h g hg).2

/-- A list of runs named by the second of a struct's cells that lies within block p from place ox on; cs is what else the block holds. -/
structure Bx (T : TypeId) (ox : Nat) (cs : Array Value) (w : World) (p : Nat) (v : Value) : Prop where
  at_ : w.heap[p]? = some (.cells (cs.setIfInBounds (ox + 1) v) T (0, 0))
  sz : ox + 1 < cs.size
  ty : T ≠ 38
theorem Bx.keep {T : TypeId} {ox : Nat} {cs : Array Value} {S : List Nat} {w w' : World} {p : Nat} {v : Value} (h : Bx T ox cs w p v) (x : Ext S w w') (hp : p ∉ S) : Bx T ox cs w' p v := ⟨x.keep h.at_ hp, h.sz, h.ty⟩
theorem hset3 {T : TypeId} {ox : Nat} {cs : Array Value} {w : World} {p : Nat} {v : Value} (h : Bx T ox cs w p v) (v' : Value) : Bx T ox cs (w.setCell ⟨p, ox + 1, none⟩ v') p v' := by
  refine ⟨?_, h.sz, h.ty⟩
  rw [heap_setCell_same w p (ox + 1) _ _ _ h.at_]
  congr 2
  apply Array.ext_getElem?
  intro i
  simp only [Array.getElem?_setIfInBounds, Array.size_setIfInBounds]
  split <;> simp_all
theorem hcell3 {T : TypeId} {ox : Nat} {cs : Array Value} {w : World} {p : Nat} {v : Value} (h : Bx T ox cs w p v) : w.cell? ⟨p, ox + 1, none⟩ = some v := by
  rw [cell_of_row w p (ox + 1) _ _ _ h.at_]
  simp [h.sz]

/-- Runs: their struct's place is within block p. -/
structure Rs (T : TypeId) (ox : Nat) (cs : Array Value) (w : World) (p : Nat) (v : Value) (L : List Rn) : Prop where
  box : Bx T ox cs w p v
  row : Lst w v L

theorem Rs.cell {T : TypeId} {ox : Nat} {cs : Array Value} {w : World} {p : Nat} {v : Value} {L : List Rn} (h : Rs T ox cs w p v L) : w.cell? ⟨p, ox + 1, none⟩ = some v := hcell3 h.box
theorem Rs.frozen {T : TypeId} {ox : Nat} {cs : Array Value} {w : World} {p : Nat} {v : Value} {L : List Rn} (h : Rs T ox cs w p v L) : w.frozen? ⟨p, ox + 1, none⟩ = false := frozen_of_row w p (ox + 1) _ _ h.box.at_
theorem Rs.lt {T : TypeId} {ox : Nat} {cs : Array Value} {w : World} {p : Nat} {v : Value} {L : List Rn} (h : Rs T ox cs w p v L) : p < w.heap.size := lt_of_heap h.box.at_
theorem Rs.ne {T : TypeId} {ox : Nat} {cs : Array Value} {w : World} {p : Nat} {v : Value} {L : List Rn} (h : Rs T ox cs w p v L) : v.ownBlock ≠ some p := own_ne h.row h.box.at_ h.box.ty
theorem Rs.keep {T : TypeId} {ox : Nat} {cs : Array Value} {S : List Nat} {w w' : World} {p : Nat} {v : Value} {L : List Rn} (h : Rs T ox cs w p v L) (x : Ext S w w') (hp : p ∉ S) (hs : ∀ b ∈ S, v.ownBlock ≠ some b) : Rs T ox cs w' p v L := ⟨h.box.keep x hp, h.row.keep x hs⟩
theorem Rs.keep0 {T : TypeId} {ox : Nat} {cs : Array Value} {w w' : World} {p : Nat} {v : Value} {L : List Rn} (h : Rs T ox cs w p v L) (x : Ext [] w w') : Rs T ox cs w' p v L := h.keep x (by simp) (by simp)

end Go.Proofs.YtlajjcboahflbaaDoor
