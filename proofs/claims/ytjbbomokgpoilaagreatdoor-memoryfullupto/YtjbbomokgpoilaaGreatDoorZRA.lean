/-
  Base, Iter, Ins, Rep, Largest: joined by program; no statement is proved here.
-/
import Derived.Test.YtjbbomokgpoilaaGreatDoorRows
import Derived.WalkKit
import Derived.ProofKit
import Derived.Laws.CopyOwn
import Derived.Laws.OwnMore
import Derived.Deep.QuietTactic
import Derived.BigQuiet
import Derived.Deep.WholeRow
import Derived.Deep.RegionHeld3
import Derived.RangeFuncNested
import Derived.RangeFuncBound
import Derived.RangeFuncCalls
import Derived.RangeFuncLeaves
import Derived.Shelf.Abstract
import Derived.Shelf.RegionOpen
import Derived.OwnWalkIn
import Derived.TacticsInMore
import Derived.LoopNIn
import Derived.LoopIn
import Derived.Maps.AppendAt
import Derived.Lib.SliceRun
import Derived.Lib.Overlaps
import Derived.Lib.AppendZerosOnto
import Derived.Deep.RegionLaw
/-
  Worlds, slices of one's own and lists of runs as they lie in memory; no statement is proved here.
-/
namespace Go.Proofs.YtjbbomokgpoilaaGreatDoor
open Go.RowKit

/-! ### contracts met in a walk -/

/-- A callee that answers v and leaves the world as it is. -/
theorem met {P : Program} {f : FuncId} {args : Array Value} {w : World} {v : Value} {K : Ending → World → Prop} (h : Calls P f args w fun e w' => e = .returned v ∧ w' = w) (hK : K (.returned v) w) : Calls P f args w K :=
  h.mono (by rintro _ _ ⟨rfl, rfl⟩; exact hK)

theorem hid {p : Prop} (h : p) : Hid p := h

/-! ### worlds -/

/-- The world w' is as w was but for the blocks of S and for what is new. -/
structure Ext (S : List Nat) (w w' : World) : Prop where
  os : w'.os = w.os
  tape : w'.tape = w.tape
  output : w'.output = w.output
  size : w.heap.size ≤ w'.heap.size
  block : ∀ k, k < w.heap.size → k ∉ S → w'.heap[k]? = w.heap[k]?

theorem Ext.refl (S : List Nat) (w : World) : Ext S w w := ⟨rfl, rfl, rfl, Nat.le_refl _, fun _ _ _ => rfl⟩
theorem Ext.trans {S : List Nat} {a b c : World} (h : Ext S a b) (k : Ext S b c) : Ext S a c :=
  ⟨k.os.trans h.os, k.tape.trans h.tape, k.output.trans h.output, Nat.le_trans h.size k.size, fun i hi hs => (k.block i (Nat.lt_of_lt_of_le hi h.size) hs).trans (h.block i hi hs)⟩
theorem Ext.mono {S T : List Nat} {a b : World} (h : Ext S a b) (hs : ∀ x ∈ S, x ∈ T) : Ext T a b :=
  ⟨h.os, h.tape, h.output, h.size, fun i hi hk => h.block i hi (fun q => hk (hs i q))⟩
/-- Blocks that are new need not be named. -/
theorem Ext.drop {S T : List Nat} {a b : World} (h : Ext S a b) (hs : ∀ x ∈ S, x ∈ T ∨ a.heap.size ≤ x) : Ext T a b :=
  ⟨h.os, h.tape, h.output, h.size, fun i hi hk => h.block i hi (fun q => by rcases hs i q with r | r; exact hk r; omega)⟩
theorem Ext.below {a b : World} (h : Ext [] a b) : Below a.heap.size a b := ⟨h.os, h.tape, h.output, h.size, fun k hk => h.block k hk (by simp)⟩
theorem Ext.drew (S : List Nat) (w : World) : Ext S w w.drew := ⟨rfl, rfl, rfl, Nat.le_refl _, fun _ _ _ => rfl⟩
theorem Ext.drewN (S : List Nat) (w : World) (n : Nat) : Ext S w (w.drewN n) := ⟨rfl, rfl, rfl, Nat.le_refl _, fun _ _ _ => rfl⟩
theorem Ext.alloc (S : List Nat) (w : World) (o : Obj) : Ext S w (w.alloc o) := ⟨rfl, rfl, rfl, by simp, fun k hk _ => Below.heap_alloc w o k hk⟩
theorem Ext.setCell (S : List Nat) (w : World) (a : Addr) (v : Value) (h : a.block ∈ S) : Ext S w (w.setCell a v) :=
  ⟨rfl, rfl, rfl, by simp, fun k _ hs => heap_setCell_other w a k v (fun e => hs (e ▸ h))⟩
theorem Ext.setRow (S : List Nat) (w : World) (g : Nat) (cs : Array Value) (h : g ∈ S) : Ext S w (w.setRow g cs) :=
  ⟨rfl, rfl, rfl, by simp, fun k _ hs => setRow_other w g k cs (fun e => hs (e ▸ h))⟩
theorem Ext.grown {S : List Nat} {w w' : World} {row : Option Nat} (hg : w.grownBy w' row) (h : ∀ k, row = some k → k ∈ S) : Ext S w w' :=
  ⟨hg.os, hg.tape, hg.output, hg.size, fun k hk hs => hg.block k hk (fun e => hs (h k e.symm))⟩
/-- Behind a step that turned only what is new since a. -/
theorem Ext.on {S : List Nat} {a b c : World} (h : Ext [] a b) (k : Ext S b c) (hs : ∀ x ∈ S, a.heap.size ≤ x) : Ext [] a c :=
  ((h.mono (by simp)).trans k).drop (fun x hx => .inr (hs x hx))

theorem lt_of_heap {w : World} {k : Nat} {o : Obj} (h : w.heap[k]? = some o) : k < w.heap.size := (Array.getElem?_eq_some_iff.1 h).1
theorem Ext.keep {S : List Nat} {w w' : World} (h : Ext S w w') {k : Nat} {o : Obj} (hk : w.heap[k]? = some o) (hs : k ∉ S) : w'.heap[k]? = some o :=
  (h.block k (lt_of_heap hk) hs).trans hk
theorem Ext.cell {S : List Nat} {w w' : World} (h : Ext S w w') {a : Addr} {v : Value} (hk : w.cell? a = some v) (hs : a.block ∉ S) : w'.cell? a = some v := by
  rw [← hk]
  exact World.cell?_of_block (h.block a.block (block_lt_of_cell hk) hs)

/-- The answer v, and nothing that was there has turned. -/
def SayPost (w : World) (v : Value) (e : Ending) (w' : World) : Prop := e = .returned v ∧ Ext [] w w'

theorem own_keep {S : List Nat} {w w' : World} {base : Nat} {e : TypeId} {s : Nat} {v : Value} {n : Nat} {xs : List Value} (h : w.ownsRow base e s v n xs) (x : Ext S w w') (hs : ∀ b ∈ S, v.ownBlock ≠ some b) : w'.ownsRow base e s v n xs := by
  refine ⟨h.1, ?_⟩
  rcases h.2 with h | ⟨g, cap, cur, rfl, h1, h2, h3⟩
  · exact .inl h
  · exact .inr ⟨g, cap, cur, rfl, h1, x.keep h2 (fun hg => hs g hg rfl), h3⟩
theorem own_keep0 {w w' : World} {base : Nat} {e : TypeId} {s : Nat} {v : Value} {n : Nat} {xs : List Value} (h : w.ownsRow base e s v n xs) (x : Ext [] w w') : w'.ownsRow base e s v n xs := own_keep h x (by simp)
theorem own_base {w : World} {base base' : Nat} {e : TypeId} {s : Nat} {v : Value} {n : Nat} {xs : List Value} (h : w.ownsRow base e s v n xs) (hb : base' ≤ base) : w.ownsRow base' e s v n xs := by
  refine ⟨h.1, ?_⟩
  rcases h.2 with h | ⟨g, cap, cur, h0, h1, h2⟩
  · exact .inl h
  · exact .inr ⟨g, cap, cur, h0, by omega, h2⟩
theorem own_nil (w : World) (base : Nat) (e : TypeId) (s : Nat) : w.ownsRow base e s (.slice none 0 0) 0 [] := ⟨by simp, .inl ⟨rfl, rfl⟩⟩

/-- The value is a slice. -/
theorem own_slice {w : World} {base : Nat} {e : TypeId} {s : Nat} {v : Value} {n : Nat} {xs : List Value} (h : w.ownsRow base e s v n xs) : ∃ a c, v = .slice a n c ∧ n ≤ c := by
  rcases h.2 with ⟨rfl, rfl⟩ | ⟨g, cap, cur, rfl, h1, h2, h3, _⟩
  · exact ⟨none, 0, rfl, Nat.le_refl _⟩
  · exact ⟨_, _, rfl, h3⟩
theorem own_lt {w : World} {base : Nat} {e : TypeId} {s n : Nat} {v : Value} {xs : List Value} (h : w.ownsRow base e s v n xs) : ∀ g, v.ownBlock = some g → base ≤ g ∧ g < w.heap.size := by
  intro g hg
  rcases h.2 with ⟨rfl, _⟩ | ⟨g', cap, cur, rfl, h1, h2, _⟩
  · simp [Value.ownBlock] at hg
  · simp [Value.ownBlock] at hg
    subst hg
    exact ⟨h1, lt_of_heap h2⟩

theorem info_parts {P : Program} {t : TypeId} {z : Value} {s b : Nat} (h : (P.info? t).map (fun i => (i.zero, i.size, i.bytes)) = some (some z, s, b)) : ∃ i, P.info? t = some i ∧ i.zero = some z ∧ i.size = s ∧ i.bytes = b := by
  cases hq : P.info? t with
  | none => simp [hq] at h
  | some i =>
    simp [hq] at h
    exact ⟨i, rfl, h.1, h.2.1, h.2.2⟩
/-- append, met by what its run is known to be. -/
theorem wpList_append_run {P : Program} {w w' : World} {ops : Array Oper} {rest : List Oper} {o : Oper} {a : Act} {Q : Exit → Act → World → Prop} (hgd : o.guard = none) (s x : Operand) (t : TypeId)
    (ho : o.op = .call { callee := .builtin .append, args := #[s, x], argTypes := #[t, t] }) (vs vx v' : Value) (hs : a.eval s = vs) (hx : a.eval x = vx)
    (hr : (Builtin.append_ #[t, t] o.type #[vs, vx]).run P w = .ok v' w') (h : wpList P ops Q rest (a.put o.dst v') w') : wpList P ops Q (o :: rest) a w := by
  refine wpList_plain hgd fun K hK => ?_
  unfold Oper.wp execOp
  simp only [ho, resolve, invoke, builtin, Sem.run_bind, Sem.run_pure, Result.andThen_ok, List.map_toArray, List.map_cons, List.map_nil, hs, hx, hr]
  exact hK _ _ h


theorem own_ne {w : World} {base : Nat} {e e' : TypeId} {s n : Nat} {v : Value} {xs : List Value} {cs : Array Value} {k : Nat} (h : w.ownsRow base e s v n xs) (hk : w.heap[k]? = some (.cells cs e' (0, 0))) (he : e' ≠ e) : v.ownBlock ≠ some k := by
  intro hv
  rcases h.2 with ⟨rfl, _⟩ | ⟨g, cap, cur, rfl, h1, h2, _⟩
  · simp [Value.ownBlock] at hv
  · simp [Value.ownBlock] at hv
    subst hv
    rw [hk] at h2
    simp at h2
    exact he h2.2
theorem below_ext {a b : World} (h : Below a.heap.size a b) : Ext [] a b := ⟨h.os, h.tape, h.output, h.size, fun k hk _ => h.block k hk⟩
theorem ext_grown {w w' : World} {v : Value} (hg : w.grownBy w' v.ownBlock) : Ext v.ownBlock.toList w w' := Ext.grown hg (by intro q hq; simp [hq])

theorem info3 : (Tryz.prog.info? 3).map (fun i => (i.zero, i.size, i.bytes)) = some (some (.int .i64 0), 1, 8) := by kernel_rfl
theorem info98 : (Tryz.prog.info? 98).map (fun i => (i.zero, i.size, i.bytes)) = some (some (.agg #[.int .i64 0, .int .i64 0, .bool false]), 3, 24) := by kernel_rfl

/-! ### runs -/

/-- A run. -/
structure Rn where
  s : Nat
  n : Nat
  u : Bool
deriving DecidableEq, Inhabited

def Rn.cells (r : Rn) : List Value := [.int .i64 r.s, .int .i64 r.n, .bool r.u]
def Rn.val (r : Rn) : Value := .agg #[.int .i64 r.s, .int .i64 r.n, .bool r.u]
def rcells (L : List Rn) : List Value := L.flatMap Rn.cells

theorem rcells_nil : rcells [] = [] := rfl
theorem rcells_append (A B : List Rn) : rcells (A ++ B) = rcells A ++ rcells B := by simp [rcells]
theorem rcells_cons (r : Rn) (B : List Rn) : rcells (r :: B) = r.cells ++ rcells B := by simp [rcells]
theorem rcells_one (r : Rn) : rcells [r] = r.cells := by simp [rcells]
theorem rcells_len : ∀ L : List Rn, (rcells L).length = L.length * 3
  | [] => rfl
  | r :: L => by rw [rcells_cons, List.length_append, rcells_len L]; simp [Rn.cells]; omega
theorem rcells_one' : ∀ (L : List Rn), ∀ v ∈ rcells L, v.oneCell' = true := by
  intro L v hv
  simp only [rcells, List.mem_flatMap, Rn.cells] at hv
  obtain ⟨r, _, h⟩ := hv
  simp at h
  rcases h with rfl | rfl | rfl <;> rfl

/-- Run i of a list. -/
def rnAt (L : List Rn) (i : Nat) : Rn := L.getD i default
theorem rnAt_get {L : List Rn} {i : Nat} (h : i < L.length) : L[i]? = some (rnAt L i) := by simp [rnAt, List.getD, h]
theorem rnAt_mem {L : List Rn} {i : Nat} (h : i < L.length) : rnAt L i ∈ L := by
  simp [rnAt, List.getD, h]

theorem rcells_get : ∀ (L : List Rn) (i j : Nat), i < L.length → j < 3 → (rcells L)[i * 3 + j]? = (rnAt L i).cells[j]?
  | [], i, j, h, _ => by simp at h
  | r :: L, 0, j, _, hj => by
    rw [rcells_cons, List.getElem?_append_left (by simp [Rn.cells]; omega)]
    simp [rnAt]
  | r :: L, i + 1, j, h, hj => by
    rw [rcells_cons, List.getElem?_append_right (by simp [Rn.cells]; omega)]
    have := rcells_get L i j (by simpa using h) hj
    simp only [Rn.cells, List.length_cons, List.length_nil] at this ⊢
    rw [show (i + 1) * 3 + j - (0 + 1 + 1 + 1) = i * 3 + j by omega, this]
    simp [rnAt]

/-- A list of runs of one's own. -/
def Lst (w : World) (v : Value) (L : List Rn) : Prop := w.ownsRow 0 98 3 v L.length (rcells L)

theorem Lst.keep {S : List Nat} {w w' : World} {v : Value} {L : List Rn} (h : Lst w v L) (x : Ext S w w') (hs : ∀ b ∈ S, v.ownBlock ≠ some b) : Lst w' v L := own_keep h x hs
theorem Lst.keep0 {w w' : World} {v : Value} {L : List Rn} (h : Lst w v L) (x : Ext [] w w') : Lst w' v L := own_keep0 h x
theorem lst_nil (w : World) : Lst w (.slice none 0 0) [] := own_nil _ _ _ _
theorem Lst.slice {w : World} {v : Value} {L : List Rn} (h : Lst w v L) : ∃ a c, v = .slice a L.length c ∧ L.length ≤ c := own_slice h
theorem Lst.at_ {w : World} {v : Value} {L : List Rn} (h : Lst w v L) (h0 : 0 < L.length) : ∃ g c, v = .slice (some ⟨g, 0, none⟩) L.length c ∧ L.length ≤ c ∧ c ≤ maxLen ∧ g < w.heap.size ∧
    ∀ i, i < L.length → w.cell? ⟨g, i * 3, none⟩ = some (.int .i64 (rnAt L i).s) ∧ w.cell? ⟨g, i * 3 + 1, none⟩ = some (.int .i64 (rnAt L i).n) ∧ w.cell? ⟨g, i * 3 + 2, none⟩ = some (.bool (rnAt L i).u) := by
  rcases h.2 with ⟨_, h2⟩ | ⟨g, cap, cur, h0, h1, h2, h3, h4, h5, h6⟩
  · omega
  · refine ⟨g, cap, h0, h3, h4, lt_of_heap h2, fun i hi => ?_⟩
    have key : ∀ j v, j < 3 → (rnAt L i).cells[j]? = some v → w.cell? ⟨g, i * 3 + j, none⟩ = some v := fun j v hj hv => by
      rw [cell_of_row w g _ _ _ _ h2]
      have : (cur.toList.take (L.length * 3))[i * 3 + j]? = cur[i * 3 + j]? := by
        rw [List.getElem?_take, if_pos (by omega)]; simp
      rw [← this, h6, rcells_get L i j hi hj, hv]
    exact ⟨key 0 _ (by omega) rfl, key 1 _ (by omega) rfl, key 2 _ (by omega) rfl⟩
theorem Lst.lt {w : World} {v : Value} {L : List Rn} (h : Lst w v L) : ∀ g, v.ownBlock = some g → g < w.heap.size := fun g hg => (own_lt h g hg).2

/-- A list of runs named by the second of a struct's cells that lies within block p from place ox on; cs is what else the block holds. -/
structure Bx (T : TypeId) (ox : Nat) (cs : Array Value) (w : World) (p : Nat) (v : Value) : Prop where
  at_ : w.heap[p]? = some (.cells (cs.setIfInBounds (ox + 1) v) T (0, 0))
  sz : ox + 1 < cs.size
  ty : T ≠ 98
theorem Bx.keep {T : TypeId} {ox : Nat} {cs : Array Value} {S : List Nat} {w w' : World} {p : Nat} {v : Value} (h : Bx T ox cs w p v) (x : Ext S w w') (hp : p ∉ S) : Bx T ox cs w' p v := ⟨x.keep h.at_ hp, h.sz, h.ty⟩
theorem hset3 {T : TypeId} {ox : Nat} {cs : Array Value} {w : World} {p : Nat} {v : Value} (h : Bx T ox cs w p v) (v' : Value) : Bx T ox cs (w.setCell ⟨p, ox + 1, none⟩ v') p v' := by
  refine ⟨?_, h.sz, h.ty⟩
  rw [heap_setCell_same w p (ox + 1) _ _ _ h.at_]
  congr 2
  apply Array.ext_getElem?
  intro i
  simp only [Array.getElem?_setIfInBounds, Array.size_setIfInBounds]
  split <;> simp_all
theorem hcell3 {T : TypeId} {ox : Nat} {cs : Array Value} {w : World} {p : Nat} {v : Value} (h : Bx T ox cs w p v) : w.cell? ⟨p, ox + 1, none⟩ = some v := by
  rw [cell_of_row w p (ox + 1) _ _ _ h.at_]
  simp [h.sz]

/-- Runs: their struct's place is within block p. -/
structure Rs (T : TypeId) (ox : Nat) (cs : Array Value) (w : World) (p : Nat) (v : Value) (L : List Rn) : Prop where
  box : Bx T ox cs w p v
  row : Lst w v L

theorem Rs.cell {T : TypeId} {ox : Nat} {cs : Array Value} {w : World} {p : Nat} {v : Value} {L : List Rn} (h : Rs T ox cs w p v L) : w.cell? ⟨p, ox + 1, none⟩ = some v := hcell3 h.box
theorem Rs.frozen {T : TypeId} {ox : Nat} {cs : Array Value} {w : World} {p : Nat} {v : Value} {L : List Rn} (h : Rs T ox cs w p v L) : w.frozen? ⟨p, ox + 1, none⟩ = false := frozen_of_row w p (ox + 1) _ _ h.box.at_
theorem Rs.lt {T : TypeId} {ox : Nat} {cs : Array Value} {w : World} {p : Nat} {v : Value} {L : List Rn} (h : Rs T ox cs w p v L) : p < w.heap.size := lt_of_heap h.box.at_
theorem Rs.ne {T : TypeId} {ox : Nat} {cs : Array Value} {w : World} {p : Nat} {v : Value} {L : List Rn} (h : Rs T ox cs w p v L) : v.ownBlock ≠ some p := own_ne h.row h.box.at_ h.box.ty
theorem Rs.keep {T : TypeId} {ox : Nat} {cs : Array Value} {S : List Nat} {w w' : World} {p : Nat} {v : Value} {L : List Rn} (h : Rs T ox cs w p v L) (x : Ext S w w') (hp : p ∉ S) (hs : ∀ b ∈ S, v.ownBlock ≠ some b) : Rs T ox cs w' p v L := ⟨h.box.keep x hp, h.row.keep x hs⟩
theorem Rs.keep0 {T : TypeId} {ox : Nat} {cs : Array Value} {w w' : World} {p : Nat} {v : Value} {L : List Rn} (h : Rs T ox cs w p v L) (x : Ext [] w w') : Rs T ox cs w' p v L := h.keep x (by simp) (by simp)

end Go.Proofs.YtjbbomokgpoilaaGreatDoor

/-
  The iterator over a list of runs: what it gives a loop, and the calls that answer it; no statement is proved here.
-/
namespace Go.Proofs.YtjbbomokgpoilaaGreatDoor
open Go.RowKit Go.Shelf

attribute [local go_sem] Oper.semAt_some

/-- What a loop's round must keep: the box of the iterator's list, and the list. -/
structure Kl (Bn : Nat) (v : Value) (A B : World) : Prop where
  box : ∀ o, A.heap[Bn]? = some o → B.heap[Bn]? = some o
  row : ∀ g, v.ownBlock = some g → ∀ o, A.heap[g]? = some o → B.heap[g]? = some o

theorem Kl.refl (Bn : Nat) (v : Value) (A : World) : Kl Bn v A A := ⟨fun _ h => h, fun _ _ _ h => h⟩
theorem Kl.trans {Bn : Nat} {v : Value} {A B C : World} (h : Kl Bn v A B) (k : Kl Bn v B C) : Kl Bn v A C :=
  ⟨fun o ho => k.box o (h.box o ho), fun g hg o ho => k.row g hg o (h.row g hg o ho)⟩
theorem Kl.lst {Bn : Nat} {v : Value} {A B : World} (h : Kl Bn v A B) {L : List Rn} (hl : Lst A v L) : Lst B v L := by
  refine ⟨hl.1, ?_⟩
  rcases hl.2 with q | ⟨g, cap, cur, rfl, h1, h2, h3⟩
  · exact .inl q
  · exact .inr ⟨g, cap, cur, rfl, h1, h.row g rfl _ h2, h3⟩
theorem Kl.boxed {Bn : Nat} {v : Value} {A B : World} (h : Kl Bn v A B) {t : TypeId} {u : Value} (hb : Boxed A Bn t u) : Boxed B Bn t u := h.box _ hb
theorem Kl.of_ext {Bn : Nat} {v : Value} {A B : World} {S : List Nat} (x : Ext S A B) (h1 : Bn ∉ S) (h2 : ∀ g, v.ownBlock = some g → g ∉ S) : Kl Bn v A B :=
  ⟨fun _ ho => x.keep ho h1, fun g hg _ ho => x.keep ho (h2 g hg)⟩
theorem Kl.of_ext0 {Bn : Nat} {v : Value} {A B : World} (x : Ext [] A B) : Kl Bn v A B := Kl.of_ext x (by simp) (by simp)
theorem klK_b {Bn : Nat} {v : Value} {w : World} (h1 : Bn < w.heap.size) (h2 : ∀ g, v.ownBlock = some g → g < w.heap.size) (W : World) (l : Nat) (o o' : Obj) (hl : w.heap.size ≤ l) (_ : W.heap[l]? = some o) (_ : o.isCells = false) (_ : o.isWalk = false) : Kl Bn v W (W.putObj l o') :=
  ⟨fun _ ho => (World.putObj_heap_other (by omega)).trans ho, fun g hg _ ho => (World.putObj_heap_other (by have := h2 g hg; omega)).trans ho⟩
theorem klK_t {Bn : Nat} {v : Value} {A B C : World} (h : Kl Bn v A B) (k : Kl Bn v B C) : Kl Bn v A C := h.trans k

set_option maxRecDepth 100000 in
set_option maxHeartbeats 2000000 in
/-- The iterator's body, for every loop body that keeps the iterator's list. -/
theorem each1_in (F : Fence) (n : Nat) (h34 : F.fn 127) (hro : F.round = none) (hn : 1 ≤ n) (l Bn : Nat) (v : Value) (L : List Rn) (hlen : L.length ≤ 1000000) (J Jx : List Rn → World → Prop) (B0 : Nat) (hJ : AbidesFrom B0 J)
    (hY : ∀ pre x W, J pre W → pre.length < L.length → YieldAt F (n - 1) Tryz.prog l #[.agg #[.int .i64 x.s, .int .i64 x.n, .bool x.u]] W fun e W' =>
      (e = .returned (.bool true) ∧ J (pre ++ [x]) W' ∧ Kl Bn v W W') ∨ (e = .returned (.bool false) ∧ Jx (pre ++ [x]) W'))
    (W : World) (hBn : Boxed W Bn 38 v) (hL : Lst W v L) (h0 : J [] W) :
    CallsIn F n Tryz.prog 127 #[.func (.yield l) #[] #[], .pointer (some ⟨Bn, 0, none⟩)] W fun e W' => (∃ v, e = .returned v) ∧
      ((∃ ys, ys = L ∧ J ys W') ∨ (∃ pre, pre <+: L ∧ Jx pre W')) := by
  obtain ⟨a, c, rfl, _⟩ := hL.slice
  have hc := hBn.cell
  have hbl := hBn.lt
  refine callsIn_of_wp Tryz.func127 rfl h34 ?_ hro
  simp only [Tryz.ntmps127, List.size_toArray, List.length_cons, List.length_nil, Nat.reduceAdd, Nat.reduceSub, Array.replicate_succ, Array.replicate_zero, List.push_toArray, List.append_toArray, List.nil_append, List.cons_append]
  have HL := hid hL
  have HB := hid hBn
  clear hL hBn
  gi_wp2
  gi_loopw [7] (fun q wr => ∃ k : Nat, q = .int .i64 k ∧ k ≤ L.length ∧ Lst wr (.slice a L.length c) L ∧ Boxed wr Bn 38 (.slice a L.length c) ∧ J (L.take k) wr) (fun q _ => (L.length - (intOf q)).toNat)
  case atStart => exact ⟨0, rfl, Nat.zero_le _, HL.out, HB.out, by simpa using h0⟩
  case round =>
    clear HL HB
    obtain ⟨k, rfl, hk, hL, hB, hJk⟩ := hrel
    have HL := hid hL
    have HB := hid hB
    have HJk := hid hJk
    clear hB hJk
    by_cases hlt : k < L.length
    · obtain ⟨g, c', hv, _, _, hg, hcs⟩ := hL.at_ (by omega)
      simp only [Value.slice.injEq, true_and] at hv
      obtain ⟨rfl, rfl⟩ := hv
      obtain ⟨c0, c1, c2⟩ := hcs k hlt
      have HM : Hid (L.take k ++ [rnAt L k] = L.take (k + 1)) := by
        show _ = _
        rw [List.take_add_one, rnAt_get hlt]; rfl
      obtain ⟨x, hx⟩ : ∃ x, x = rnAt L k := ⟨_, rfl⟩
      rw [← hx] at c0 c1 c2 HM
      clear hx hcs hL
      have hJ2 : J (L.take k) (wr.alloc (.cells #[.int .i64 x.s, .int .i64 x.n, .bool x.u] 98)) := hJ _ _ _ none HJk.out (World.grownBy_alloc _ _ _) (by simp)
      obtain ⟨fn, tmps, assign, body, hy, hR⟩ := hY (L.take k) x _ hJ2 (by simp; omega)
      clear hJ2
      gi_wp2
      refine hR.mono ?_
      rintro e W3 (⟨rfl, hJ3, hk3⟩ | ⟨rfl, hJx3⟩)
      · have hE := Ext.alloc [] wr (.cells #[.int .i64 x.s, .int .i64 x.n, .bool x.u] 98)
        have HL3 := hid (hk3.lst (HL.out.keep0 hE))
        have HB3 := hid (hk3.boxed (HB.out.alloc _))
        clear hE
        gi_wp2
        go_roundw
        case rel => exact ⟨k + 1, by go_num, by omega, HL3.out, HB3.out, by rw [← HM.out]; exact hJ3⟩
        case measure => simp [intOf]; omega
      · gi_wp2
        refine bodyPost_ret (results_none rfl _ _ _) rfl ?_
        exact ⟨⟨_, rfl⟩, .inr ⟨_, by rw [HM.out]; exact List.take_prefix _ _, hJx3⟩⟩
    · obtain rfl : k = L.length := by omega
      gi_wp2
      go_end0
      exact ⟨⟨_, rfl⟩, .inl ⟨L, rfl, by have := HJk.out; rwa [List.take_length] at this⟩⟩

/-- The iterator's contract. -/
theorem each_stops (F : Fence) (n : Nat) (h34 : F.fn 127) (hro : F.round = none) (hn : 1 ≤ n) (Bn : Nat) (v : Value) (L : List Rn) (hlen : L.length ≤ 1000000) (w : World) (hB : Boxed w Bn 38 v) (hL : Lst w v L) :
    SeqStopsK F n Tryz.prog 127 #[.pointer (some ⟨Bn, 0, none⟩)] (fun x : Rn => #[Value.agg #[.int .i64 x.s, .int .i64 x.n, .bool x.u]]) (Kl Bn v) (fun ys => ys = L) (fun pre => pre <+: L) L.length w := fun l J Jx W hW hJ _ hY h0 =>
  each1_in F n h34 hro hn l Bn v L hlen J Jx _ hJ hY W ((below_ext hW).keep hB (by simp)) (hL.keep0 (below_ext hW)) h0

/-- The iterator's value. -/
def itv (Bn : Nat) : Value := .func (.func 127) #[] #[.pointer (some ⟨Bn, 0, none⟩)]

theorem each_any (v : Value) (a : Option Addr) (n c : Nat) (hv : v = .slice a n c) (w : World) : Calls Tryz.prog 109 #[v] w fun e w' => e = .returned (itv w.heap.size) ∧ w' = w.alloc (.cells #[v] 38) := by
  subst hv
  go_enter Tryz.func109, Tryz.ntmps109
  go_wp2
  go_ret
  exact ⟨rfl, rfl⟩

theorem now_nil (w : World) : Calls Tryz.prog 122 #[.pointer none] w fun e w' => e = .returned (itv w.heap.size) ∧ w' = w.alloc (.cells #[.slice none 0 0] 38) := by
  go_enter Tryz.func122, Tryz.ntmps122
  go_wp2_with (go_at_call 109; refine (each_any _ _ _ _ rfl _).mono ?_; rintro e w' ⟨rfl, rfl⟩)
  go_ret
  exact ⟨rfl, rfl⟩

theorem now_any {T : TypeId} {ox : Nat} {cs : Array Value} (p : Nat) (v : Value) (L : List Rn) (w : World) (hR : Rs T ox cs w p v L) : Calls Tryz.prog 122 #[.pointer (some ⟨p, ox + 1, none⟩)] w fun e w' => e = .returned (itv w.heap.size) ∧ w' = w.alloc (.cells #[v] 38) := by
  obtain ⟨a, c, rfl, _⟩ := hR.row.slice
  have hc := hR.cell
  clear hR
  go_enter Tryz.func122, Tryz.ntmps122
  go_wp2_with (go_at_call 109; refine (each_any _ _ _ _ rfl _).mono ?_; rintro e w' ⟨rfl, rfl⟩)
  go_ret
  exact ⟨rfl, rfl⟩

/-- A copy of a list. -/
def ClPost (w : World) (L : List Rn) (e : Ending) (w' : World) : Prop :=
  ∃ v', e = .returned v' ∧ Lst w' v' L ∧ (∀ g, v'.ownBlock = some g → w.heap.size ≤ g) ∧ Ext [] w w'

theorem clone_any (v : Value) (L : List Rn) (w : World) (hL : Lst w v L) (hlen : L.length ≤ 1000000) : Calls Tryz.prog 110 #[v] w (ClPost w L) := by
  rcases id hL.2 with ⟨rfl, hn⟩ | ⟨g, cap, cur, rfl, h1, h2, h3, h4, h5, h6⟩
  · obtain rfl : L = [] := List.length_eq_zero_iff.1 hn
    clear hL hlen
    have heq : ∀ w, Sem.run Tryz.prog (binOp .eql 38 (.slice none 0 0) (.slice none 0 0)) w = .ok (.bool true) w := fun w => Lib.run_eql_slice_nil w 38 98 none 0 0 0 0 Tryz.underlying38
    go_enter Tryz.func110, Tryz.ntmps110
    go_wp2
    go_ret
    exact ⟨_, rfl, lst_nil _, by simp [Value.ownBlock], Ext.refl _ _⟩
  · have hE0 := Ext.alloc [] w (.cells #[] 98)
    obtain ⟨i, hi0, hz0, hz1, hz2⟩ := info_parts info98
    have hown : (w.alloc (.cells #[] 98)).ownsRow w.heap.size 98 3 (.slice (some ⟨w.heap.size, 0, none⟩) 0 0) 0 [] := World.ownsRow_made w #[] 0 (Nat.le_refl _) (Nat.zero_le _) rfl
    have hL0 := hL.keep0 hE0
    obtain ⟨v', w', hr, ho, hg, _⟩ := run_append_own (P := Tryz.prog) (w.alloc (.cells #[] 98)) w.heap.size 38 38 98 i _ 3 24 Tryz.underlying38 hi0 hz0 hz1 hz2 rfl (by decide) _ 0 [] hown ⟨g, 0, none⟩ L.length cap (rcells L) (rcells_len L) (fun j u hj => World.ownsRow.cells hL0 (g := g) rfl j u hj) (rcells_one' L) (by unfold maxLen; omega) (by omega) (by simp)
    rw [Nat.zero_add, List.nil_append] at ho
    have HF : Hid (ClPost w L (.returned v') w') := ⟨v', rfl, own_base ho (Nat.zero_le _), fun g hg => (own_lt ho g hg).1, (hE0.on (ext_grown hg) (by simp [Value.ownBlock]))⟩
    clear hL h1 h2 h3 h4 h5 h6 hE0 hown hL0 ho hg hz0 hz1 hz2 hi0
    generalize L.length = len at *
    have heq : ∀ w, Sem.run Tryz.prog (binOp .eql 38 (.slice (some ⟨g, 0, none⟩) len cap) (.slice none 0 0)) w = .ok (.bool false) w := fun w => Lib.run_eql_slice_nil w 38 98 (some ⟨g, 0, none⟩) len cap 0 0 Tryz.underlying38
    go_enter Tryz.func110, Tryz.ntmps110
    go_wp2_with (at_builtin; refine wpList_append_run rfl _ _ 38 rfl _ _ _ rfl rfl hr ?_)
    go_ret
    exact HF.out

/-- An iterator over a copy. -/
def AllPost (w : World) (L : List Rn) (e : Ending) (w' : World) : Prop :=
  ∃ Bn v, e = .returned (itv Bn) ∧ Boxed w' Bn 38 v ∧ Lst w' v L ∧ w.heap.size ≤ Bn ∧ (∀ g, v.ownBlock = some g → w.heap.size ≤ g) ∧ Ext [] w w'

theorem all_nil (w : World) : Calls Tryz.prog 79 #[.pointer none] w (AllPost w []) := by
  go_enter Tryz.func79, Tryz.ntmps79
  go_wp2_with (go_at_call 109; refine (each_any _ _ _ _ rfl _).mono ?_; rintro e w' ⟨rfl, rfl⟩)
  go_ret
  exact ⟨_, _, rfl, Boxed.new _ _ _, lst_nil _, Nat.le_refl _, by simp [Value.ownBlock], Ext.alloc _ _ _⟩

theorem all_any {T : TypeId} {ox : Nat} {cs : Array Value} (p : Nat) (v : Value) (L : List Rn) (w : World) (hR : Rs T ox cs w p v L) (hlen : L.length ≤ 1000000) : Calls Tryz.prog 79 #[.pointer (some ⟨p, ox + 1, none⟩)] w (AllPost w L) := by
  have K := clone_any v L w hR.row hlen
  have hc := hR.cell
  obtain ⟨a, c, rfl, _⟩ := hR.row.slice
  clear hR
  go_enter Tryz.func79, Tryz.ntmps79
  go_wp2_with fail
  refine K.mono ?_
  clear K
  rintro e w1 ⟨v', rfl, hL1, hn1, hE1⟩
  obtain ⟨a', c', rfl, _⟩ := hL1.slice
  have HF : Hid (AllPost w L (.returned (itv w1.heap.size)) (w1.alloc (.cells #[.slice a' L.length c'] 38))) :=
    ⟨_, _, rfl, Boxed.new _ _ _, hL1.keep0 (Ext.alloc _ _ _), hE1.size, hn1, hE1.trans (Ext.alloc _ _ _)⟩
  clear hL1 hn1 hE1
  go_wp2_with (go_at_call 109; refine (each_any _ _ _ _ rfl _).mono ?_; rintro e w' ⟨rfl, rfl⟩)
  go_ret
  exact HF.out

end Go.Proofs.YtjbbomokgpoilaaGreatDoor

/-
  slices.Insert at lists of runs, one run put in; no statement is proved here.
-/
namespace Go.Proofs.YtjbbomokgpoilaaGreatDoor
open Go.RowKit

/-! ### copy and append at runs -/

/-- copy between slices of elements of k cells, the target a row that is known whole. -/
theorem run_copy_k {P : Program} (w : World) (dT sT ty elem : TypeId) (k g o dLen dCap : Nat) (a : Addr) (sLen sCap m : Nat) (cur : List Value) (t : TypeId) (cs : List Value)
    (hu : P.underlying dT = some (.slice elem)) (hs : (P.info? elem).map (·.size) = some k) (hg : w.heap[g]? = some (.cells cur.toArray t (0, 0))) (hm : Nat.min sLen dLen = m) (hn : cs.length = m * k)
    (hsrc : ∀ j v, cs[j]? = some v → w.cell? (a.add j) = some v) (hfit : o + cs.length ≤ cur.length) (h1 : ∀ v ∈ cs, v.oneCell' = true) :
    (Builtin.copy_ #[dT, sT] ty #[.slice (some ⟨g, o, none⟩) dLen dCap, .slice (some a) sLen sCap]).run P w = .ok (goInt m) (w.setRow g (splice cur o cs).toArray) := by
  have hf := run_firstCells_some (P := P) w k m a sLen sCap cs hn hsrc
  have hst := run_storeCells_at P g o t cs 0 cur.toArray w hg (by simpa using hfit) h1
  cases hq : P.info? elem with
  | none => simp [hq] at hs
  | some i =>
    have hi : i.size = k := by simpa [hq] using hs
    simp only [Nat.add_zero] at hst
    simp [Builtin.copy_, run_underlying hu, Builtin.lenOf, sizeOf, typeInfo, hq, hi, hm, hf, hst, splice]

theorem wpList_copy_run {P : Program} {w w' : World} {ops : Array Oper} {rest : List Oper} {o : Oper} {a : Act} {Q : Exit → Act → World → Prop} (hgd : o.guard = none) (d s : Operand) (t t' : TypeId)
    (ho : o.op = .call { callee := .builtin .copy, args := #[d, s], argTypes := #[t, t'] }) (vd vs v' : Value) (hd : a.eval d = vd) (hs : a.eval s = vs)
    (hr : (Builtin.copy_ #[t, t'] o.type #[vd, vs]).run P w = .ok v' w') (h : wpList P ops Q rest (a.put o.dst v') w') : wpList P ops Q (o :: rest) a w := by
  refine wpList_plain hgd fun K hK => ?_
  unfold Oper.wp execOp
  simp only [ho, resolve, invoke, builtin, Sem.run_bind, Sem.run_pure, Result.andThen_ok, List.map_toArray, List.map_cons, List.map_nil, hd, hs, hr]
  exact hK _ _ h

theorem wpList_append_run2 {P : Program} {w w' : World} {ops : Array Oper} {rest : List Oper} {o : Oper} {a : Act} {Q : Exit → Act → World → Prop} (hgd : o.guard = none) (s x : Operand) (t t' : TypeId)
    (ho : o.op = .call { callee := .builtin .append, args := #[s, x], argTypes := #[t, t'] }) (vs vx v' : Value) (hs : a.eval s = vs) (hx : a.eval x = vx)
    (hr : (Builtin.append_ #[t, t'] o.type #[vs, vx]).run P w = .ok v' w') (h : wpList P ops Q rest (a.put o.dst v') w') : wpList P ops Q (o :: rest) a w := by
  refine wpList_plain hgd fun K hK => ?_
  unfold Oper.wp execOp
  simp only [ho, resolve, invoke, builtin, Sem.run_bind, Sem.run_pure, Result.andThen_ok, List.map_toArray, List.map_cons, List.map_nil, hs, hx, hr]
  exact hK _ _ h

theorem step_copy_run {P : Program} {ops : Array Oper} {o : Oper} {a : Act} {w w' : World} {K : Act → World → Prop} {Q : Exit → Act → World → Prop} {E : Prop} (hgd : o.guard = none) (d s : Operand) (t t' : TypeId)
    (ho : o.op = .call { callee := .builtin .copy, args := #[d, s], argTypes := #[t, t'] }) (vd vs v' : Value) (hd : a.eval d = vd) (hs : a.eval s = vs)
    (hr : (Builtin.copy_ #[t, t'] o.type #[vd, vs]).run P w = .ok v' w') (h : K (a.put o.dst v') w') :
    if Region.wanted o (yielded ops a.tmps) = true then Oper.wp P o a w K Q else E := by
  rw [if_pos (by simp [Region.wanted, hgd])]
  unfold Oper.wp execOp
  simp only [ho, resolve, invoke, builtin, Sem.run_bind, Sem.run_pure, Result.andThen_ok, List.map_toArray, List.map_cons, List.map_nil, hd, hs, hr]
  exact h

/-- The block of a list is what it was, or it is new. -/
def OldNew (w : World) (v v' : Value) : Prop := v'.ownBlock = v.ownBlock ∨ ∀ g, v'.ownBlock = some g → w.heap.size ≤ g

theorem size42' : (Tryz.prog.info? 98).map (·.size) = some 3 := by kernel_rfl

/-- What a list has become. -/
def LPost (w : World) (v : Value) (L' : List Rn) (e : Ending) (w' : World) : Prop :=
  ∃ v', e = .returned v' ∧ Lst w' v' L' ∧ OldNew w v v' ∧ Ext v.ownBlock.toList w w'

/-- A run of the call's own. -/
def One (w : World) (vb : Nat) (x : Rn) : Prop := w.heap[vb]? = some (.cells #[.int .i64 x.s, .int .i64 x.n, .bool x.u] 98 (0, 0))
theorem One.cells {w : World} {vb : Nat} {x : Rn} (h : One w vb x) : ∀ j u, x.cells[j]? = some u → w.cell? ((⟨vb, 0, none⟩ : Addr).add j) = some u := fun j u hu => by
  rw [Addr.add_lit, cell_of_row _ _ _ _ _ _ h, Nat.zero_add, ← hu]; simp [Rn.cells]
theorem One.keep {S : List Nat} {w w' : World} {vb : Nat} {x : Rn} (h : One w vb x) (e : Ext S w w') (hs : vb ∉ S) : One w' vb x := e.keep h hs
theorem cells_one (x : Rn) : ∀ u ∈ x.cells, u.oneCell' = true := by simp [Rn.cells, Value.oneCell']
theorem cells_len (x : Rn) : x.cells.length = 3 := rfl

theorem zero_cells_len (n : Nat) : (Builtin.zeroCells (Value.agg #[.int .i64 0, .int .i64 0, .bool false]).cells n).size = n * 3 := by
  rw [size_zeroCells]; rfl

/-- append of one run. -/
theorem app_run (w : World) (v : Value) (L : List Rn) (hL : Lst w v L) (hlen : L.length ≤ 100000) (vb : Nat) (x : Rn) (hx : One w vb x) (ty : TypeId) (c1 : Nat) :
    ∃ v' w', (Builtin.append_ #[38, 38] ty #[v, .slice (some ⟨vb, 0, none⟩) 1 c1]).run Tryz.prog w = .ok v' w' ∧ Lst w' v' (L ++ [x]) ∧ OldNew w v v' ∧ Ext v.ownBlock.toList w w' := by
  obtain ⟨i, hi0, hz0, hz1, hz2⟩ := info_parts info98
  have fin : ∀ old, Lst (w.drew.alloc (.cells ((rcells L).toArray ++ x.cells.toArray ++ Builtin.zeroCells (Value.agg #[.int .i64 0, .int .i64 0, .bool false]).cells (grownCap w (L.length + 1) old 98 - (L.length + 1))) 98)) (.slice (some ⟨w.heap.size, 0, none⟩) (L.length + 1) (grownCap w (L.length + 1) old 98)) (L ++ [x]) := fun old => by
    have hge := grownCap_ge w (L.length + 1) old 98
    refine ⟨by simp [rcells_len], .inr ⟨w.heap.size, grownCap w (L.length + 1) old 98, _, by simp, Nat.zero_le _, heap_alloc_new w.drew _, by simpa using hge, grownCap_le_maxLen w _ old 98 (by unfold maxLen; omega), ?_, ?_⟩⟩
    · simp only [Array.size_append, List.size_toArray, zero_cells_len, rcells_len, cells_len]
      omega
    · simp only [Array.toList_append, rcells_append, rcells_one]
      rw [List.take_left' (by simp [rcells_len, cells_len]; omega)]
  rcases id hL.2 with ⟨rfl, hn⟩ | ⟨g, cap, cur, rfl, h1, h2, h3, h4, h5, h6⟩
  · obtain rfl : L = [] := List.length_eq_zero_iff.1 hn
    have hr := run_append_nil (P := Tryz.prog) w 38 ty 98 i _ Tryz.underlying38 hi0 hz0 ⟨vb, 0, none⟩ 1 c1 x.cells (by rw [hz1]; rfl) hx.cells (by omega) (by omega) (by rw [hz2]; omega)
    have hf := fin 0
    simp only [rcells_nil, List.length_nil, Nat.zero_add, Array.empty_append, List.nil_append] at hf
    refine ⟨_, _, hr, by simpa using hf, .inr (by simp [Value.ownBlock]), ?_⟩
    exact ((Ext.drew [] w).trans (Ext.alloc [] _ _)).mono (by simp)
  · by_cases hroom : L.length + 1 ≤ cap
    · have hr := run_append_room (P := Tryz.prog) w 38 ty 98 i Tryz.underlying38 hi0 g L.length cap cur h2 ⟨vb, 0, none⟩ 1 c1 x.cells (by rw [hz1]; rfl) hx.cells (cells_one x) hroom (by rw [hz1, h5, cells_len]; omega)
      rw [hz1] at hr
      refine ⟨_, _, hr, ⟨by simp [rcells_len], .inr ⟨g, cap, _, by simp, Nat.zero_le _, setRow_heap w g cur _ 98 _ h2, by simpa using hroom, h4, ?_, ?_⟩⟩, .inl rfl, Ext.setRow _ _ _ _ (by simp [Value.ownBlock])⟩
      · simp [cells_len, h5]; omega
      · rw [h6]
        simp only [rcells_append, rcells_one]
        rw [List.take_left' (by simp [rcells_len, cells_len]; omega)]
    · have hr := run_append_grow (P := Tryz.prog) w 38 ty 98 i _ Tryz.underlying38 hi0 hz0 ⟨g, 0, none⟩ L.length cap (rcells L) (by rw [hz1, rcells_len]) (fun j u hu => World.ownsRow.cells hL (g := g) rfl j u hu) ⟨vb, 0, none⟩ 1 c1 x.cells (by rw [hz1]; rfl) hx.cells (by omega) (by omega) (growslice_fits (by omega) (by rw [hz2]; omega))
      refine ⟨_, _, hr, fin cap, .inr (by simp [Value.ownBlock]), ?_⟩
      exact ((Ext.drew [] w).trans (Ext.alloc [] _ _)).mono (by simp)

/-! ### Insert -/

set_option maxRecDepth 100000 in
set_option maxHeartbeats 4000000 in
theorem insert_end (v : Value) (L : List Rn) (w : World) (hL : Lst w v L) (h0 : 0 < L.length) (hlen : L.length ≤ 100000) (vb : Nat) (x : Rn) (hx : One w vb x) :
    Calls Tryz.prog 133 #[v, .int .i64 L.length, .slice (some ⟨vb, 0, none⟩) 1 1] w (LPost w v (L ++ [x])) := by
  obtain ⟨v', w', hr, hL', hON, hE⟩ := app_run w v L hL hlen vb x hx 38 1
  obtain ⟨g, c, rfl, hnc, hcm, _, _⟩ := hL.at_ h0
  unfold maxLen at hcm
  have HF : Hid (LPost w (.slice (some ⟨g, 0, none⟩) L.length c) (L ++ [x]) (.returned v') w') := ⟨v', rfl, hL', hON, hE⟩
  clear hL hL' hON hE hx
  generalize L.length = n at *
  go_enter Tryz.func133, Tryz.ntmps133
  go_wp2_with (at_builtin; refine wpList_append_run rfl _ _ 38 rfl _ _ _ rfl rfl hr ?_)
  all_goals
    go_ret
    exact HF.out

theorem take_drop_cells (L : List Rn) (i : Nat) : rcells L = rcells (L.take i) ++ rcells (L.drop i) := by rw [← rcells_append, List.take_append_drop]
theorem rcells_take_len (L : List Rn) (i : Nat) (h : i ≤ L.length) : (rcells (L.take i)).length = i * 3 := by rw [rcells_len, List.length_take, Nat.min_eq_left h]
theorem rcells_drop_len (L : List Rn) (i : Nat) : (rcells (L.drop i)).length = (L.length - i) * 3 := by rw [rcells_len, List.length_drop]

theorem splice_left {α : Type} (A B : List α) (o : Nat) (cs : List α) (h : A.length = o) : splice (A ++ B) o cs = A ++ (cs ++ B.drop cs.length) := by
  unfold splice
  rw [List.take_left' h, ← h, ← List.drop_drop, List.drop_left]
theorem splice_len {α : Type} (C : List α) (o : Nat) (cs : List α) (h : o + cs.length ≤ C.length) : (splice C o cs).length = C.length := length_splice C o cs h

theorem sizeOf42 : ∀ w, (Go.sizeOf 98).run Tryz.prog w = .ok 3 w := fun w => by
  obtain ⟨i, hi0, _, hz1, _⟩ := info_parts info98
  simp [sizeOf, typeInfo, hi0, hz1]
theorem shape_row {w : World} {g : Nat} {cs : Array Value} {t : TypeId} (h : w.heap[g]? = some (.cells cs t (0, 0))) : w.shape? g = some (t, cs.size) := by
  simp [World.shape?, h]

theorem over_w (w : World) (vb g la ca lb cb off : Nat) (hne : vb ≠ g) (x : Rn) (hx : One w vb x) (cur : Array Value) (hg : w.heap[g]? = some (.cells cur 98 (0, 0))) (hk : cur.size ≠ 0) :
    (callFunc 134 #[.slice (some ⟨vb, 0, none⟩) la ca, .slice (some ⟨g, off, none⟩) lb cb]).run Tryz.prog w = .ok (.value (.bool false)) w := by
  rw [run_callFunc_extern Tryz.func134 (by kernel_rfl) (by kernel_rfl) (by kernel_rfl) (e := Extern.SlicesOverlaps.overlaps #[38, 38] #[4]) (by kernel_rfl),
    Lib.run_overlaps_apart w 38 4 98 Tryz.underlying38 3 sizeOf42 ⟨vb, 0, none⟩ ⟨g, off, none⟩ la ca lb cb hne 98 98 3 cur.size (shape_row hx) (shape_row hg) hk (frozen_of_row _ _ _ _ _ hx) (frozen_of_row _ _ _ _ _ hx)]
  rfl

set_option maxRecDepth 100000 in
set_option maxHeartbeats 4000000 in
theorem insert_shift (g c i : Nat) (L : List Rn) (w : World) (hL : Lst w (.slice (some ⟨g, 0, none⟩) L.length c) L) (hi : i < L.length) (hroom : L.length + 1 ≤ c) (hlen : L.length ≤ 100000) (vb : Nat) (x : Rn) (hx : One w vb x) (hne : vb ≠ g) :
    Calls Tryz.prog 133 #[.slice (some ⟨g, 0, none⟩) L.length c, .int .i64 i, .slice (some ⟨vb, 0, none⟩) 1 1] w (LPost w (.slice (some ⟨g, 0, none⟩) L.length c) (L.take i ++ [x] ++ L.drop i)) := by
  have hcm0 : c ≤ maxLen := by
    obtain ⟨g', c', hv, _, hcm, _⟩ := hL.at_ (by omega)
    simp only [Value.slice.injEq, true_and] at hv
    obtain ⟨_, rfl⟩ := hv
    exact hcm
  have hcm := hcm0
  unfold maxLen at hcm0
  rcases hL.2 with ⟨h0, _⟩ | ⟨g', c', cur, hv, _, hg, _, _, hcs, hck⟩
  · cases h0
  simp only [Value.slice.injEq, Option.some.injEq, Addr.mk.injEq, and_true, true_and] at hv
  obtain ⟨rfl, rfl⟩ := hv
  have hov : ∀ la ca lb cb off, (callFunc 134 #[.slice (some ⟨vb, 0, none⟩) la ca, .slice (some ⟨g, off, none⟩) lb cb]).run Tryz.prog w = .ok (.value (.bool false)) w := fun la ca lb cb off => over_w w vb g la ca lb cb off hne x hx cur hg (by omega)
  -- the row's cells, in parts
  have hC : cur.toList = rcells (L.take i) ++ (rcells (L.drop i) ++ cur.toList.drop (L.length * 3)) := by
    rw [← List.append_assoc, ← take_drop_cells, ← hck, List.take_append_drop]
  have hPl := rcells_take_len L i (by omega)
  have hQl := rcells_drop_len L i
  obtain ⟨P, hP⟩ : ∃ P, P = rcells (L.take i) := ⟨_, rfl⟩
  obtain ⟨Q, hQ⟩ : ∃ Q, Q = rcells (L.drop i) := ⟨_, rfl⟩
  obtain ⟨R, hR⟩ : ∃ R, R = cur.toList.drop (L.length * 3) := ⟨_, rfl⟩
  have hRl : R.length = (c - L.length) * 3 := by rw [hR, List.length_drop, Array.length_toList, hcs]; omega
  rw [← hP] at hPl
  rw [← hQ] at hQl
  rw [← hP, ← hQ, ← hR] at hC
  have hg0 : w.heap[g]? = some (.cells (P ++ (Q ++ R)).toArray 98 (0, 0)) := by rw [hg, ← hC]
  have hq1 : ∀ u ∈ Q, u.oneCell' = true := by rw [hQ]; exact rcells_one' _
  have hcp1 : ∀ ty o dl dc so sl sc, o = (i + 1) * 3 → dl = L.length - i → so = i * 3 → sl = L.length + 1 - i → (Builtin.copy_ #[38, 38] ty #[.slice (some ⟨g, o, none⟩) dl dc, .slice (some ⟨g, so, none⟩) sl sc]).run Tryz.prog w.drew = .ok (goInt ((L.length - i : Nat) : Nat)) (w.drew.setRow g (splice (P ++ (Q ++ R)) ((i + 1) * 3) Q).toArray) := by
    intro ty o dl dc so sl sc ho hdl hso hsl
    subst ho
    exact run_copy_k w.drew 38 38 ty 98 3 g ((i + 1) * 3) dl dc ⟨g, so, none⟩ sl sc (L.length - i) (P ++ (Q ++ R)) 98 Q Tryz.underlying38 size42' hg0 (by rw [hdl, hsl]; simp only [Nat.min_def]; split <;> omega) hQl (fun j u hu => by
      have hj := (List.getElem?_eq_some_iff.1 hu).1
      rw [Addr.add_lit, cell_of_row (w := w.drew) g _ _ _ _ hg0, hso]
      simp only [List.getElem?_toArray]
      rw [List.getElem?_append_right (by omega), List.getElem?_append_left (by omega), show i * 3 + j - P.length = j by omega, hu]) (by simp only [List.length_append]; omega) hq1
  have hX1 : splice (P ++ (Q ++ R)) ((i + 1) * 3) Q = P ++ ((splice (Q ++ R) 3 Q)) := by
    unfold splice
    rw [List.take_append, List.drop_append, List.take_of_length_le (by omega), List.drop_eq_nil_of_le (by omega), show (i + 1) * 3 - P.length = 3 by omega, show (i + 1) * 3 + Q.length - P.length = 3 + Q.length by omega]
    simp
  have hX1l : (splice (Q ++ R) 3 Q).length = Q.length + R.length := by rw [splice_len]; simp; simp; omega
  have hX1d : (splice (Q ++ R) 3 Q).drop 3 = Q ++ (Q ++ R).drop (3 + Q.length) := by
    unfold splice
    rw [List.drop_left' (by simp; omega)]
  rw [hX1] at hcp1
  obtain ⟨S, hS⟩ : ∃ S, S = splice (Q ++ R) 3 Q := ⟨_, rfl⟩
  rw [← hS] at hcp1 hX1l hX1d
  have hgS : (w.drew.setRow g (P ++ S).toArray).heap[g]? = some (.cells (P ++ S).toArray 98 (0, 0)) := setRow_heap _ _ _ _ _ _ hg0
  have hxS : One (w.drew.setRow g (P ++ S).toArray) vb x := (setRow_other w.drew g vb _ hne).trans hx
  have hcp2 : ∀ ty o dl dc sc, o = i * 3 → dl = L.length + 1 - i → (Builtin.copy_ #[38, 38] ty #[.slice (some ⟨g, o, none⟩) dl dc, .slice (some ⟨vb, 0, none⟩) 1 sc]).run Tryz.prog (w.drew.setRow g (P ++ S).toArray) = .ok (goInt ((1 : Nat) : Nat)) ((w.drew.setRow g (P ++ S).toArray).setRow g (splice (P ++ S) (i * 3) x.cells).toArray) := by
    intro ty o dl dc sc ho hdl
    subst ho
    exact run_copy_k _ 38 38 ty 98 3 g (i * 3) dl dc ⟨vb, 0, none⟩ 1 sc 1 (P ++ S) 98 x.cells Tryz.underlying38 size42' hgS (by rw [hdl]; simp only [Nat.min_def]; split <;> omega) rfl hxS.cells (by simp only [List.length_append, cells_len]; omega) (cells_one x)
  have hX2 : splice (P ++ S) (i * 3) x.cells = P ++ (x.cells ++ (Q ++ (Q ++ R).drop (3 + Q.length))) := by
    rw [splice_left P S _ _ hPl, cells_len, hX1d]
  rw [hX2, setRow_setRow] at hcp2
  have HF : Hid (LPost w (.slice (some ⟨g, 0, none⟩) L.length c) (L.take i ++ [x] ++ L.drop i) (.returned (.slice (some ⟨g, 0, none⟩) (L.length + 1) c)) (w.drew.setRow g (P ++ (x.cells ++ (Q ++ (Q ++ R).drop (3 + Q.length)))).toArray)) := by
    refine ⟨_, rfl, ⟨?_, .inr ⟨g, c, _, ?_, Nat.zero_le _, setRow_heap _ _ _ _ _ _ hg0, ?_, hcm, ?_, ?_⟩⟩, .inl rfl, ?_⟩
    · rw [rcells_len]
    · congr 1; simp; omega
    · simp; omega
    · simp [cells_len]; omega
    · rw [show (L.take i ++ [x] ++ L.drop i).length = L.length + 1 by simp; omega]
      simp only [rcells_append, rcells_one, ← hP, ← hQ]
      rw [show P ++ (x.cells ++ (Q ++ (Q ++ R).drop (3 + Q.length))) = (P ++ x.cells ++ Q) ++ (Q ++ R).drop (3 + Q.length) by simp, List.take_left' (by simp [cells_len]; omega)]
    · exact (Ext.drew _ w).trans (Ext.setRow _ _ _ _ (by simp [Value.ownBlock]))
  clear hx hL hg hC hP hQ hR hg0 hX1 hX1l hX1d hS hgS hxS hX2 hcs hck hq1 hPl hQl hRl
  generalize (P ++ (x.cells ++ (Q ++ (Q ++ R).drop (3 + Q.length)))).toArray = Z2 at *
  generalize (P ++ S).toArray = Z1 at *
  generalize hn : L.length = n at *
  clear hn
  have hw1 : IntKind.i64.wrap ((i : Int) + 1) = (i : Int) + 1 := by rw [IntKind.wrap_i64]; omega
  have hb1 : (0 : Int) ≤ (i : Int) + 1 := by omega
  have hb3 : (i : Int) ≤ (n : Int) := by omega
  have hb5 : (i : Int) ≤ (n : Int) + 1 := by omega
  have htn : ((i : Int) + 1).toNat = i + 1 := by omega
  have hb2 : ¬ (c = i + 1) := by omega
  have hb4 : ¬ (c = i) := by omega
  go_enter Tryz.func133, Tryz.ntmps133
  go_wp2_with (simp only [hov])
  go_region_law (refine step_copy_run rfl _ _ 38 38 rfl (.slice (some ⟨g, (i + 1) * 3, none⟩) (n - i) (c - (i + 1))) (.slice (some ⟨g, i * 3, none⟩) (n + 1 - i) (c - i)) _ (by simp [Act.eval, Act.put]) (by simp [Act.eval, Act.put]) (hcp1 _ _ _ _ _ _ _ rfl rfl rfl rfl) ?_)
  go_wp2_with (at_builtin; refine wpList_copy_run rfl _ _ 38 38 rfl (.slice (some ⟨g, i * 3, none⟩) (n + 1 - i) (c - i)) (.slice (some ⟨vb, 0, none⟩) 1 1) _ (by simp [Act.eval, Act.put]) (by simp [Act.eval, Act.put]) (hcp2 _ _ _ _ _ rfl rfl) ?_)
  go_ret
  exact HF.out

set_option maxRecDepth 100000 in
set_option maxHeartbeats 4000000 in
theorem insert_grow (g c i : Nat) (L : List Rn) (w : World) (hL : Lst w (.slice (some ⟨g, 0, none⟩) L.length c) L) (hi : i < L.length) (hroom : ¬ L.length + 1 ≤ c) (hlen : L.length ≤ 100000) (vb : Nat) (x : Rn) (hx : One w vb x) :
    Calls Tryz.prog 133 #[.slice (some ⟨g, 0, none⟩) L.length c, .int .i64 i, .slice (some ⟨vb, 0, none⟩) 1 1] w (LPost w (.slice (some ⟨g, 0, none⟩) L.length c) (L.take i ++ [x] ++ L.drop i)) := by
  obtain ⟨i0, hi0, hz0, hz1, hz2⟩ := info_parts info98
  have hnc : L.length ≤ c := by
    obtain ⟨a', c', hv, hcm⟩ := hL.slice
    simp only [Value.slice.injEq] at hv
    omega
  have hPl := rcells_take_len L i (by omega)
  have hQl := rcells_drop_len L i
  have hcell : ∀ j u, (rcells L)[j]? = some u → w.cell? ((⟨g, 0, none⟩ : Addr).add j) = some u := fun j u hu => World.ownsRow.cells hL (g := g) rfl j u hu
  have hPQ := take_drop_cells L i
  obtain ⟨P, hP⟩ : ∃ P, P = rcells (L.take i) := ⟨_, rfl⟩
  obtain ⟨Q, hQ⟩ : ∃ Q, Q = rcells (L.drop i) := ⟨_, rfl⟩
  rw [← hP] at hPl
  rw [← hQ] at hQl
  rw [← hP, ← hQ] at hPQ
  have hq1 : ∀ u ∈ Q, u.oneCell' = true := by rw [hQ]; exact rcells_one' _
  have hgw : g < w.heap.size := (own_lt hL g rfl).2
  have hvw : vb < w.heap.size := lt_of_heap hx
  have hold : (Builtin.firstCells i0.size i (.slice (some ⟨g, 0, none⟩) i c)).run Tryz.prog w.drew = .ok P.toArray w.drew := by
    rw [hz1]
    exact run_firstCells_some w.drew 3 i ⟨g, 0, none⟩ i c P hPl (fun j u hu => hcell j u (by rw [hPQ, List.getElem?_append_left (List.getElem?_eq_some_iff.1 hu).1, hu]))
  have hk1 : i + (L.length + 1 - i) = L.length + 1 := by omega
  have hkk : ((L.length + 1 - i : Nat) : Int) = (L.length : Int) + 1 - (i : Int) := by omega
  have hrz := fun ty => Lib.run_append_grow_zeros (P := Tryz.prog) w 38 3 ty 98 i0 _ .i64 .i64 Tryz.underlying38 Tryz.underlying3 hi0 hz0 (some ⟨g, 0, none⟩) i c P hold (L.length + 1 - i) (by omega) (by omega) (by omega) (by omega) (by rw [hz2]; omega) (by rw [hz2]; exact growslice_fits (by omega) (by omega))
  rw [hk1, hkk] at hrz
  obtain ⟨G, hG⟩ : ∃ G, G = grownCap w (L.length + 1) c 98 := ⟨_, rfl⟩
  have hGge : L.length + 1 ≤ G := by rw [hG]; exact grownCap_ge w _ c 98
  have hGm : G ≤ maxLen := by rw [hG]; exact grownCap_le_maxLen w _ c 98 (by unfold maxLen; omega)
  rw [← hG] at hrz
  obtain ⟨Zr, hZr⟩ : ∃ Zr : List Value, Zr = (Builtin.zeroCells (Value.agg #[.int .i64 0, .int .i64 0, .bool false]).cells (L.length + 1 - i)).toList ++ (Builtin.zeroCells (Value.agg #[.int .i64 0, .int .i64 0, .bool false]).cells (G - (L.length + 1))).toList := ⟨_, rfl⟩
  have hZl : Zr.length = (G - i) * 3 := by
    have h1 := zero_cells_len (L.length + 1 - i)
    have h2 := zero_cells_len (G - (L.length + 1))
    rw [← Array.length_toList] at h1 h2
    rw [hZr, List.length_append, h1, h2]; omega
  have hrow : P.toArray ++ Builtin.zeroCells (Value.agg #[.int .i64 0, .int .i64 0, .bool false]).cells (L.length + 1 - i) ++ Builtin.zeroCells (Value.agg #[.int .i64 0, .int .i64 0, .bool false]).cells (G - (L.length + 1)) = (P ++ Zr).toArray := by
    apply Array.toList_inj.1
    rw [hZr]; simp
  rw [hrow] at hrz
  have hE1 : Ext [] w (w.drew.alloc (.cells (P ++ Zr).toArray 98)) := (Ext.drew [] w).trans (Ext.alloc [] _ _)
  have hg1 : (w.drew.alloc (.cells (P ++ Zr).toArray 98)).heap[w.heap.size]? = some (.cells (P ++ Zr).toArray 98 (0, 0)) := heap_alloc_new w.drew _
  have hx1 := hx.keep hE1 (by simp)
  obtain ⟨W1, hW1⟩ : ∃ W1, W1 = w.drew.alloc (.cells (P ++ Zr).toArray 98) := ⟨_, rfl⟩
  rw [← hW1] at hrz hE1 hg1 hx1
  have hcp2 : ∀ ty o dl dc sc, o = i * 3 → dl = L.length + 1 - i → (Builtin.copy_ #[38, 38] ty #[.slice (some ⟨w.heap.size, o, none⟩) dl dc, .slice (some ⟨vb, 0, none⟩) 1 sc]).run Tryz.prog W1 = .ok (goInt ((1 : Nat) : Nat)) (W1.setRow w.heap.size (splice (P ++ Zr) (i * 3) x.cells).toArray) := by
    intro ty o dl dc sc ho hdl
    subst ho
    exact run_copy_k _ 38 38 ty 98 3 w.heap.size (i * 3) dl dc ⟨vb, 0, none⟩ 1 sc 1 (P ++ Zr) 98 x.cells Tryz.underlying38 size42' hg1 (by rw [hdl]; simp only [Nat.min_def]; split <;> omega) rfl hx1.cells (by simp only [List.length_append, cells_len]; omega) (cells_one x)
  rw [splice_left P Zr _ _ hPl, cells_len] at hcp2
  have hE2 : Ext [w.heap.size] W1 (W1.setRow w.heap.size (P ++ (x.cells ++ Zr.drop 3)).toArray) := Ext.setRow _ _ _ _ (by simp)
  have hg2 : (W1.setRow w.heap.size (P ++ (x.cells ++ Zr.drop 3)).toArray).heap[w.heap.size]? = some (.cells (P ++ (x.cells ++ Zr.drop 3)).toArray 98 (0, 0)) := setRow_heap _ _ _ _ _ _ hg1
  have hL2 : Lst (W1.setRow w.heap.size (P ++ (x.cells ++ Zr.drop 3)).toArray) (.slice (some ⟨g, 0, none⟩) L.length c) L := (hL.keep0 hE1).keep hE2 (by simp [Value.ownBlock]; omega)
  obtain ⟨W2, hW2⟩ : ∃ W2, W2 = W1.setRow w.heap.size (P ++ (x.cells ++ Zr.drop 3)).toArray := ⟨_, rfl⟩
  rw [← hW2] at hcp2 hE2 hg2 hL2
  have hcp3 : ∀ ty o dl dc so sl sc, o = (i + 1) * 3 → dl = L.length - i → so = i * 3 → sl = L.length - i → (Builtin.copy_ #[38, 38] ty #[.slice (some ⟨w.heap.size, o, none⟩) dl dc, .slice (some ⟨g, so, none⟩) sl sc]).run Tryz.prog W2.drew = .ok (goInt ((L.length - i : Nat) : Nat)) (W2.drew.setRow w.heap.size (splice (P ++ (x.cells ++ Zr.drop 3)) ((i + 1) * 3) Q).toArray) := by
    intro ty o dl dc so sl sc ho hdl hso hsl
    subst ho
    refine run_copy_k W2.drew 38 38 ty 98 3 w.heap.size ((i + 1) * 3) dl dc ⟨g, so, none⟩ sl sc (L.length - i) (P ++ (x.cells ++ Zr.drop 3)) 98 Q Tryz.underlying38 size42' hg2 (by rw [hdl, hsl]; simp only [Nat.min_def]; split <;> omega) hQl (fun j u hu => ?_) (by simp only [List.length_append, cells_len, List.length_drop]; omega) hq1
    have h := World.ownsRow.cells hL2 (g := g) rfl (i * 3 + j) u (by rw [hPQ, List.getElem?_append_right (by omega), show i * 3 + j - P.length = j by omega, hu])
    rw [Addr.add_lit] at h ⊢
    rw [hso]
    simpa using h
  rw [show P ++ (x.cells ++ Zr.drop 3) = (P ++ x.cells) ++ Zr.drop 3 by simp, splice_left (P ++ x.cells) (Zr.drop 3) _ _ (by simp [cells_len]; omega)] at hcp3
  have HF : Hid (LPost w (.slice (some ⟨g, 0, none⟩) L.length c) (L.take i ++ [x] ++ L.drop i) (.returned (.slice (some ⟨w.heap.size, 0, none⟩) (L.length + 1) G)) (W2.drew.setRow w.heap.size (P ++ x.cells ++ (Q ++ (Zr.drop 3).drop Q.length)).toArray)) := by
    refine ⟨_, rfl, ⟨?_, .inr ⟨w.heap.size, G, _, ?_, Nat.zero_le _, setRow_heap _ _ _ _ _ _ hg2, ?_, hGm, ?_, ?_⟩⟩, .inr (by simp [Value.ownBlock]), ?_⟩
    · rw [rcells_len]
    · congr 1; simp; omega
    · simp; omega
    · simp [cells_len]; omega
    · rw [show (L.take i ++ [x] ++ L.drop i).length = L.length + 1 by simp; omega]
      simp only [rcells_append, rcells_one, ← hP, ← hQ]
      rw [show P ++ x.cells ++ (Q ++ (Zr.drop 3).drop Q.length) = (P ++ x.cells ++ Q) ++ (Zr.drop 3).drop Q.length by simp, List.take_left' (by simp [cells_len]; omega)]
    · refine Ext.mono (S := []) ?_ (by simp)
      exact ((hE1.on hE2 (by simp)).trans (Ext.drew [] _)).on (Ext.setRow [w.heap.size] _ _ _ (by simp)) (by simp)
  clear hx hL hPQ hP hQ hg1 hg2 hL2 hx1 hE1 hE2 hW1 hW2 hZr hZl hrow hG hold hcell hq1 hPl hQl hi0 hz0 hz1 hz2 hk1 hkk hgw hvw
  generalize (P ++ x.cells ++ (Q ++ (Zr.drop 3).drop Q.length)).toArray = Z3 at *
  generalize hn : L.length = n at *
  clear hn
  have hw1 : IntKind.i64.wrap ((i : Int) + 1) = (i : Int) + 1 := by rw [IntKind.wrap_i64]; omega
  have hb1 : (0 : Int) ≤ (i : Int) + 1 := by omega
  have hb3 : (i : Int) ≤ (n : Int) := by omega
  have hb5 : (i : Int) ≤ (n : Int) + 1 := by omega
  have htn : ((i : Int) + 1).toNat = i + 1 := by omega
  have hb2 : ¬ (G = i + 1) := by omega
  have hb4 : ¬ (c = i) := by omega
  have hb6 : ¬ (G = i) := by omega
  unfold maxLen at hGm
  go_enter Tryz.func133, Tryz.ntmps133
  go_wp2_with (at_builtin; first
    | refine wpList_append_run2 rfl _ _ 38 3 rfl _ _ _ rfl rfl (hrz _) ?_
    | refine wpList_copy_run rfl _ _ 38 38 rfl (.slice (some ⟨w.heap.size, i * 3, none⟩) (n + 1 - i) (G - i)) (.slice (some ⟨vb, 0, none⟩) 1 1) _ (by simp [Act.eval, Act.put]) (by simp [Act.eval, Act.put]) (hcp2 _ _ _ _ _ rfl rfl) ?_)
  go_region_law (refine step_copy_run rfl _ _ 38 38 rfl (.slice (some ⟨w.heap.size, (i + 1) * 3, none⟩) (n - i) (G - (i + 1))) (.slice (some ⟨g, i * 3, none⟩) (n - i) (c - i)) _ (by simp [Act.eval, Act.put]) (by simp [Act.eval, Act.put]) (hcp3 _ _ _ _ _ _ _ rfl rfl rfl rfl) ?_)
  go_wp2_with fail
  go_ret
  exact HF.out

/-- slices.Insert of one run. -/
theorem insert_any (v : Value) (i : Nat) (L : List Rn) (w : World) (hL : Lst w v L) (h0 : 0 < L.length) (hi : i ≤ L.length) (hlen : L.length ≤ 100000) (vb : Nat) (x : Rn) (hx : One w vb x) (hne : v.ownBlock ≠ some vb) :
    Calls Tryz.prog 133 #[v, .int .i64 i, .slice (some ⟨vb, 0, none⟩) 1 1] w (LPost w v (L.take i ++ [x] ++ L.drop i)) := by
  by_cases he : i = L.length
  · subst he
    rw [List.take_length, List.drop_length, List.append_nil]
    exact insert_end v L w hL h0 hlen vb x hx
  · obtain ⟨g, c, rfl, _⟩ := hL.at_ h0
    have hne2 : vb ≠ g := by rintro rfl; exact hne rfl
    by_cases hroom : L.length + 1 ≤ c
    · exact insert_shift g c i L w hL (by omega) hroom hlen vb x hx hne2
    · exact insert_grow g c i L w hL (by omega) hroom hlen vb x hx

end Go.Proofs.YtjbbomokgpoilaaGreatDoor

/-
  slices.Replace at lists of runs, some runs by one; no statement is proved here.
-/
namespace Go.Proofs.YtjbbomokgpoilaaGreatDoor
open Go.RowKit

/-- m zero runs. -/
def zruns (m : Nat) : List Value := (Builtin.zeroCells (Value.agg #[.int .i64 0, .int .i64 0, .bool false]).cells m).toList
theorem zruns_len (m : Nat) : (zruns m).length = m * 3 := by
  have h1 := zero_cells_len m
  rw [← Array.length_toList] at h1
  exact h1
theorem zruns_one (m : Nat) : ∀ u ∈ zruns m, u.oneCell' = true := by
  intro u hu
  simp only [zruns, Builtin.zeroCells, Value.cells, Array.toList_map, List.mem_map] at hu
  obtain ⟨k, _, rfl⟩ := hu
  have : k % 3 < 3 := Nat.mod_lt _ (by omega)
  have h3 : k % 3 = 0 ∨ k % 3 = 1 ∨ k % 3 = 2 := by omega
  show Value.oneCell' ((#[Value.int .i64 0, .int .i64 0, .bool false] : Array Value)[k % 3]!) = true
  rcases h3 with h | h | h <;> rw [h] <;> rfl

theorem run_clear_r (w : World) (ty : TypeId) (g o m c : Nat) (cur : List Value) (hg : w.heap[g]? = some (.cells cur.toArray 98 (0, 0))) (h0 : 0 < m) (hfit : o + m * 3 ≤ cur.length) :
    (Builtin.clear_ #[38] ty #[.slice (some ⟨g, o, none⟩) m c]).run Tryz.prog w = .ok (.tuple #[]) (w.setRow g (splice cur o (zruns m)).toArray) := by
  obtain ⟨i, hi, hz0, hz1, hz2⟩ := info_parts info98
  have hst := run_storeCells_at Tryz.prog g o 98 (zruns m) 0 cur.toArray w hg (by simp [zruns_len]; exact hfit) (zruns_one m)
  simp only [Nat.add_zero] at hst
  obtain ⟨k, rfl⟩ : ∃ k, m = k + 1 := ⟨m - 1, by omega⟩
  rw [show zruns (k + 1) = (Builtin.zeroCells (Value.agg #[.int .i64 0, .int .i64 0, .bool false]).cells (k + 1)).toList from rfl] at hst ⊢
  simp [Builtin.clear_, run_underlying Tryz.underlying38, zeroValue, typeInfo, hi, hz0, hst, splice]

theorem wpList_clear_run {P : Program} {w w' : World} {ops : Array Oper} {rest : List Oper} {o : Oper} {a : Act} {Q : Exit → Act → World → Prop} (hgd : o.guard = none) (d : Operand) (t : TypeId)
    (ho : o.op = .call { callee := .builtin .clear, args := #[d], argTypes := #[t] }) (vd v' : Value) (hd : a.eval d = vd)
    (hr : (Builtin.clear_ #[t] o.type #[vd]).run P w = .ok v' w') (h : wpList P ops Q rest (a.put o.dst v') w') : wpList P ops Q (o :: rest) a w := by
  refine wpList_plain hgd fun K hK => ?_
  unfold Oper.wp execOp
  simp only [ho, resolve, invoke, builtin, Sem.run_bind, Sem.run_pure, Result.andThen_ok, List.map_toArray, List.map_cons, List.map_nil, hd, hr]
  exact hK _ _ h

/-- A row that opens with the cells of a list holds the list. -/
theorem lst_open {w : World} {g c : Nat} (L : List Rn) (n : Nat) (hn : L.length = n) (T : List Value) (h : w.heap[g]? = some (.cells (rcells L ++ T).toArray 98 (0, 0))) (hc : n ≤ c) (hm : c ≤ maxLen) (hl : (rcells L ++ T).length = c * 3) : Lst w (.slice (some ⟨g, 0, none⟩) n c) L := by
  subst hn
  exact ⟨rcells_len L, .inr ⟨g, c, _, rfl, Nat.zero_le _, h, hc, hm, by simpa using hl, by simp only []; rw [List.take_left' (rcells_len L)]⟩⟩

set_option maxRecDepth 100000 in
set_option maxHeartbeats 4000000 in
theorem replace_end (g c i : Nat) (L : List Rn) (w : World) (hL : Lst w (.slice (some ⟨g, 0, none⟩) L.length c) L) (hi : i < L.length) (hlen : L.length ≤ 100000) (vb : Nat) (x : Rn) (hx : One w vb x) :
    Calls Tryz.prog 132 #[.slice (some ⟨g, 0, none⟩) L.length c, .int .i64 i, .int .i64 L.length, .slice (some ⟨vb, 0, none⟩) 1 1] w (LPost w (.slice (some ⟨g, 0, none⟩) L.length c) (L.take i ++ [x])) := by
  rcases hL.2 with ⟨h0, _⟩ | ⟨g', c', cur, hv, _, hg, hnc, hcm, hcs, hck⟩
  · cases h0
  simp only [Value.slice.injEq, Option.some.injEq, Addr.mk.injEq, and_true, true_and] at hv
  obtain ⟨rfl, rfl⟩ := hv
  obtain ⟨i0, hi0, hz0, hz1, hz2⟩ := info_parts info98
  have hC : cur.toList = rcells (L.take i) ++ cur.toList.drop (i * 3) := by
    rw [← List.take_append_drop (i * 3) cur.toList]
    congr 1
    · have : (cur.toList.take (L.length * 3)).take (i * 3) = rcells (L.take i) := by
        rw [hck, take_drop_cells L i, List.take_left' (rcells_take_len L i (by omega))]
      rw [← this, List.take_take, Nat.min_eq_left (by omega)]
    · rw [List.take_append_drop]
  have hPl := rcells_take_len L i (by omega)
  obtain ⟨R, hR⟩ : ∃ R, R = cur.toList.drop (i * 3) := ⟨_, rfl⟩
  have hRl : R.length = (c - i) * 3 := by rw [hR, List.length_drop, Array.length_toList, hcs]; omega
  rw [← hR] at hC
  have hr := fun ty => run_append_room (P := Tryz.prog) w 38 ty 98 i0 Tryz.underlying38 hi0 g i c cur hg ⟨vb, 0, none⟩ 1 1 x.cells (by rw [hz1]; rfl) hx.cells (cells_one x) (by omega) (by rw [hz1, hcs, cells_len]; omega)
  rw [hz1, hC, List.take_left' hPl, cells_len, ← List.drop_drop, List.drop_left' hPl] at hr
  have hg1 : (w.setRow g (rcells (L.take i) ++ x.cells ++ R.drop 3).toArray).heap[g]? = some (.cells (rcells (L.take i) ++ x.cells ++ R.drop 3).toArray 98 (0, 0)) := setRow_heap _ _ _ _ _ _ hg
  have hE1 : Ext [g] w (w.setRow g (rcells (L.take i) ++ x.cells ++ R.drop 3).toArray) := Ext.setRow _ _ _ _ (by simp)
  have hl' : (L.take i ++ [x]).length = i + 1 := by simp; omega
  have e1 : rcells (L.take i) ++ x.cells ++ R.drop 3 = rcells (L.take i ++ [x]) ++ R.drop 3 := by rw [rcells_append, rcells_one]
  rw [e1] at hr hg1 hE1
  have hAl : (rcells (L.take i ++ [x])).length = (i + 1) * 3 := by rw [rcells_len, hl']
  obtain ⟨W1, hW1⟩ : ∃ W1, W1 = w.setRow g (rcells (L.take i ++ [x]) ++ R.drop 3).toArray := ⟨_, rfl⟩
  rw [← hW1] at hr hg1 hE1
  clear hW1
  by_cases hend : i + 1 = L.length
  · have HF : Hid (LPost w (.slice (some ⟨g, 0, none⟩) L.length c) (L.take i ++ [x]) (.returned (.slice (some ⟨g, 0, none⟩) (i + 1) c)) W1) :=
      ⟨_, rfl, lst_open _ _ hl' _ hg1 (by omega) hcm (by rw [List.length_append, hAl, List.length_drop]; omega), .inl rfl, hE1⟩
    clear hx hL hg hcs hck hC hPl hRl hR hg1 hE1 hl' e1 hAl hi0 hz0 hz1 hz2
    generalize hn : L.length = n at *
    clear hn
    unfold maxLen at hcm
    subst hend
    go_enter Tryz.func132, Tryz.ntmps132
    go_wp2_with (at_builtin; refine wpList_append_run rfl _ _ 38 rfl _ _ _ rfl rfl (hr _) ?_)
    all_goals go_ret
    all_goals exact HF.out
  · have hcl := fun ty c' => run_clear_r W1 ty g ((i + 1) * 3) (L.length - (i + 1)) c' _ hg1 (by omega) (by rw [List.length_append, hAl, List.length_drop]; omega)
    rw [splice_left _ _ _ _ hAl] at hcl
    have hg2 := setRow_heap W1 g _ (rcells (L.take i ++ [x]) ++ (zruns (L.length - (i + 1)) ++ (R.drop 3).drop (zruns (L.length - (i + 1))).length)).toArray 98 _ hg1
    have HF : Hid (LPost w (.slice (some ⟨g, 0, none⟩) L.length c) (L.take i ++ [x]) (.returned (.slice (some ⟨g, 0, none⟩) (i + 1) c)) (W1.setRow g (rcells (L.take i ++ [x]) ++ (zruns (L.length - (i + 1)) ++ (R.drop 3).drop (zruns (L.length - (i + 1))).length)).toArray)) :=
      ⟨_, rfl, lst_open _ _ hl' _ hg2 (by omega) hcm (by simp only [List.length_append, hAl, List.length_drop, zruns_len]; omega), .inl rfl, hE1.trans (Ext.setRow _ _ _ _ (by simp))⟩
    generalize (rcells (L.take i ++ [x]) ++ (zruns (L.length - (i + 1)) ++ (R.drop 3).drop (zruns (L.length - (i + 1))).length)).toArray = Z2 at *
    clear hx hL hg hcs hck hC hPl hRl hR hg1 hg2 hE1 hl' e1 hAl hi0 hz0 hz1 hz2
    generalize hn : L.length = n at *
    clear hn
    unfold maxLen at hcm
    have hb1 : ¬ (c = i + 1) := by omega
    have hb2 : ¬ (c = i) := by omega
    have hb3 : (i : Int) + 1 ≤ n := by omega
    have hb4 : (i : Int) + 1 < n := by omega
    have htn : ((i : Int) + 1).toNat = i + 1 := by omega
    go_enter Tryz.func132, Tryz.ntmps132
    go_wp2_with (first
      | (at_builtin; refine wpList_append_run rfl _ _ 38 rfl _ _ _ rfl rfl (hr _) ?_)
      | (at_builtin; refine wpList_clear_run rfl _ 38 rfl _ _ rfl (hcl _ _) ?_))
    go_ret
    exact HF.out

theorem lst_open2 {w : World} {g c : Nat} (L : List Rn) (n : Nat) (hn : L.length = n) (A T : List Value) (hA : A = rcells L) (h : w.heap[g]? = some (.cells (A ++ T).toArray 98 (0, 0))) (hc : n ≤ c) (hm : c ≤ maxLen) (hl : (A ++ T).length = c * 3) : Lst w (.slice (some ⟨g, 0, none⟩) n c) L := by
  subst hA
  exact lst_open L n hn T h hc hm hl

set_option maxRecDepth 100000 in
set_option maxHeartbeats 4000000 in
theorem replace_mid (g c i j : Nat) (L : List Rn) (w : World) (hL : Lst w (.slice (some ⟨g, 0, none⟩) L.length c) L) (hi : i < j) (hj : j < L.length) (hlen : L.length ≤ 100000) (vb : Nat) (x : Rn) (hx : One w vb x) :
    Calls Tryz.prog 132 #[.slice (some ⟨g, 0, none⟩) L.length c, .int .i64 i, .int .i64 j, .slice (some ⟨vb, 0, none⟩) 1 1] w (LPost w (.slice (some ⟨g, 0, none⟩) L.length c) (L.take i ++ [x] ++ L.drop j)) := by
  rcases hL.2 with ⟨h0, _⟩ | ⟨g', c', cur, hv, _, hg, hnc, hcm, hcs, hck⟩
  · cases h0
  simp only [Value.slice.injEq, Option.some.injEq, Addr.mk.injEq, and_true, true_and] at hv
  obtain ⟨rfl, rfl⟩ := hv
  have hC : cur.toList = rcells (L.take i) ++ (rcells ((L.take j).drop i) ++ (rcells (L.drop j) ++ cur.toList.drop (L.length * 3))) := by
    rw [← List.append_assoc, ← List.append_assoc, ← rcells_append, ← rcells_append]
    have : L.take i ++ (L.take j).drop i ++ L.drop j = L := by
      rw [show L.take i = (L.take j).take i by rw [List.take_take, Nat.min_eq_left (by omega)], List.take_append_drop, List.take_append_drop]
    rw [this, ← hck, List.take_append_drop]
  have hPl := rcells_take_len L i (by omega)
  have hMl : (rcells ((L.take j).drop i)).length = (j - i) * 3 := by rw [rcells_len]; simp; omega
  have hQl := rcells_drop_len L j
  have hl' : (L.take i ++ [x] ++ L.drop j).length = i + 1 + (L.length - j) := by simp; omega
  have hAl : (rcells (L.take i ++ [x] ++ L.drop j)).length = (i + 1 + (L.length - j)) * 3 := by rw [rcells_len, hl']
  have eA : rcells (L.take i ++ [x] ++ L.drop j) = rcells (L.take i) ++ (x.cells ++ rcells (L.drop j)) := by rw [rcells_append, rcells_append, rcells_one, List.append_assoc]
  have hq1 := rcells_one' (L.drop j)
  obtain ⟨A, hA⟩ : ∃ A, A = rcells (L.take i ++ [x] ++ L.drop j) := ⟨_, rfl⟩
  obtain ⟨P, hP⟩ : ∃ P, P = rcells (L.take i) := ⟨_, rfl⟩
  obtain ⟨M, hM⟩ : ∃ M, M = rcells ((L.take j).drop i) := ⟨_, rfl⟩
  obtain ⟨Q, hQ⟩ : ∃ Q, Q = rcells (L.drop j) := ⟨_, rfl⟩
  obtain ⟨R, hR⟩ : ∃ R, R = cur.toList.drop (L.length * 3) := ⟨_, rfl⟩
  have hRl : R.length = (c - L.length) * 3 := by rw [hR, List.length_drop, Array.length_toList, hcs]; omega
  rw [← hP, ← hM, ← hQ, ← hR] at hC
  rw [← hA, ← hP, ← hQ] at eA
  rw [← hP] at hPl
  rw [← hM] at hMl
  rw [← hQ] at hQl hq1
  rw [← hA] at hAl
  have hg0 : w.heap[g]? = some (.cells (P ++ (M ++ (Q ++ R))).toArray 98 (0, 0)) := by rw [hg, ← hC]
  -- the first copy, in whatever number of draws
  have hcp1 : ∀ nq ty o dl dc sc, o = i * 3 → dl = i + 1 + (L.length - j) - i → (Builtin.copy_ #[38, 38] ty #[.slice (some ⟨g, o, none⟩) dl dc, .slice (some ⟨vb, 0, none⟩) 1 sc]).run Tryz.prog (w.drewN nq) = .ok (goInt ((1 : Nat) : Nat)) ((w.drewN nq).setRow g (splice (P ++ (M ++ (Q ++ R))) (i * 3) x.cells).toArray) := by
    intro nq ty o dl dc sc ho hdl
    subst ho
    exact run_copy_k _ 38 38 ty 98 3 g (i * 3) dl dc ⟨vb, 0, none⟩ 1 sc 1 _ 98 x.cells Tryz.underlying38 size42' hg0 (by simp only [Nat.min_def]; split <;> omega) rfl hx.cells (by simp only [List.length_append, cells_len]; omega) (cells_one x)
  have eM : (M ++ (Q ++ R)).drop 3 = M.drop 3 ++ (Q ++ R) := by rw [List.drop_append_of_le_length (by omega)]
  rw [splice_left P _ _ _ hPl, cells_len, eM] at hcp1
  have hg1 : ∀ nq, ((w.drewN nq).setRow g (P ++ (x.cells ++ (M.drop 3 ++ (Q ++ R)))).toArray).heap[g]? = some (.cells (P ++ (x.cells ++ (M.drop 3 ++ (Q ++ R)))).toArray 98 (0, 0)) := fun nq => setRow_heap (w.drewN nq) _ _ _ _ _ hg0
  have hg1d : ∀ nq, ((w.drewN nq).setRow g (P ++ (x.cells ++ (M.drop 3 ++ (Q ++ R)))).toArray).drew.heap[g]? = some (.cells (P ++ (x.cells ++ (M.drop 3 ++ (Q ++ R)))).toArray 98 (0, 0)) := hg1
  have hcp2 : ∀ nq ty o dl dc so sl sc, o = (i + 1) * 3 → dl = L.length - j → so = j * 3 → sl = L.length - j → (Builtin.copy_ #[38, 38] ty #[.slice (some ⟨g, o, none⟩) dl dc, .slice (some ⟨g, so, none⟩) sl sc]).run Tryz.prog ((w.drewN nq).setRow g (P ++ (x.cells ++ (M.drop 3 ++ (Q ++ R)))).toArray).drew = .ok (goInt ((L.length - j : Nat) : Nat)) (((w.drewN nq).setRow g (P ++ (x.cells ++ (M.drop 3 ++ (Q ++ R)))).toArray).drew.setRow g (splice (P ++ (x.cells ++ (M.drop 3 ++ (Q ++ R)))) ((i + 1) * 3) Q).toArray) := by
    intro nq ty o dl dc so sl sc ho hdl hso hsl
    subst ho
    refine run_copy_k _ 38 38 ty 98 3 g ((i + 1) * 3) dl dc ⟨g, so, none⟩ sl sc (L.length - j) _ 98 Q Tryz.underlying38 size42' (hg1 nq) (by rw [hdl, hsl]; simp) hQl (fun k u hu => ?_) (by simp only [List.length_append, cells_len, List.length_drop]; omega) hq1
    have hk := (List.getElem?_eq_some_iff.1 hu).1
    rw [Addr.add_lit, cell_of_row _ g _ _ _ _ (hg1d nq), hso]
    simp only [List.getElem?_toArray]
    rw [show P ++ (x.cells ++ (M.drop 3 ++ (Q ++ R))) = (P ++ (x.cells ++ M.drop 3)) ++ (Q ++ R) by simp, List.getElem?_append_right (by simp [cells_len]; omega), List.getElem?_append_left (by simp [cells_len]; omega), ← hu]
    congr 1
    simp [cells_len]; omega
  have e2 : splice (P ++ (x.cells ++ (M.drop 3 ++ (Q ++ R)))) ((i + 1) * 3) Q = A ++ (M.drop 3 ++ (Q ++ R)).drop Q.length := by
    rw [show P ++ (x.cells ++ (M.drop 3 ++ (Q ++ R))) = (P ++ x.cells) ++ (M.drop 3 ++ (Q ++ R)) by simp, splice_left _ _ _ _ (by simp [cells_len]; omega), eA]
    simp
  rw [e2] at hcp2
  obtain ⟨T, hT⟩ : ∃ T, T = (M.drop 3 ++ (Q ++ R)).drop Q.length := ⟨_, rfl⟩
  have hTl : T.length = (c - (i + 1 + (L.length - j))) * 3 := by rw [hT]; simp; omega
  rw [← hT] at hcp2
  have hg2 : ∀ nq, (((w.drewN nq).setRow g (P ++ (x.cells ++ (M.drop 3 ++ (Q ++ R)))).toArray).drew.setRow g (A ++ T).toArray).heap[g]? = some (.cells (A ++ T).toArray 98 (0, 0)) := fun nq => setRow_heap (World.drew _) _ _ _ _ _ (hg1 nq)
  have hE2 : ∀ nq, Ext [g] w (((w.drewN nq).setRow g (P ++ (x.cells ++ (M.drop 3 ++ (Q ++ R)))).toArray).drew.setRow g (A ++ T).toArray) := fun nq => (((Ext.drewN _ w nq).trans (Ext.setRow _ _ _ _ (by simp))).trans (Ext.drew _ _)).trans (Ext.setRow _ _ _ _ (by simp))
  by_cases hend : i + 1 = j
  · have HF : Hid (∀ nq, LPost w (.slice (some ⟨g, 0, none⟩) L.length c) (L.take i ++ [x] ++ L.drop j) (.returned (.slice (some ⟨g, 0, none⟩) (i + 1 + (L.length - j)) c)) (((w.drewN nq).setRow g (P ++ (x.cells ++ (M.drop 3 ++ (Q ++ R)))).toArray).drew.setRow g (A ++ T).toArray)) := fun nq =>
      ⟨_, rfl, lst_open2 _ _ hl' A T hA (hg2 nq) (by omega) hcm (by rw [List.length_append, hAl, hTl]; omega), .inl rfl, hE2 nq⟩
    generalize L.take i ++ [x] ++ L.drop j = L' at *
    generalize (A ++ T).toArray = Z2 at *
    generalize (P ++ (x.cells ++ (M.drop 3 ++ (Q ++ R)))).toArray = Z1 at *
    clear hx hL hg hcs hck hC hPl hMl hQl hRl hR hg1 hg1d hg2 hE2 hl' eA hAl hA hP hM hQ hT hTl eM e2 hq1 hg0
    generalize hn : L.length = n at *
    clear hn
    unfold maxLen at hcm
    obtain ⟨m, rfl⟩ : ∃ m, n = j + m := ⟨n - j, by omega⟩
    subst hend
    rw [show i + 1 + m - (i + 1) = m by omega] at hcp1 hcp2 HF
    have hcl : ∀ ty a c' W, (Builtin.clear_ #[38] ty #[.slice a 0 c']).run Tryz.prog W = .ok (.tuple #[]) W := fun ty a c' W => by
      cases a <;> simp [Builtin.clear_, run_underlying Tryz.underlying38]
    have hb1 : ¬ (c = i + 1) := by omega
    have hb2 : ¬ (c = i) := by omega
    have hb4 : (i : Int) ≤ ((i + 1 + m : Nat) : Int) := by omega
    have htn : ((i : Int) + 1).toNat = i + 1 := by omega
    have hsb : i + 1 + m - (i + 1) = m := by omega
    have hw1 : IntKind.i64.wrap ((i : Int) + 1) = (i : Int) + 1 := by rw [IntKind.wrap_i64]; omega
    have hb9 : (0 : Int) ≤ (i : Int) + 1 := by omega
    go_enter Tryz.func132, Tryz.ntmps132
    go_wp2_with fail
    go_quiet (fail)
    go_wp2_with fail
    have hb12 : (i : Int) + 1 ≤ (i : Int) + 1 + (m : Int) := by omega
    have hb13 : i + 1 ≤ i + 1 + m := by omega
    have hb14 : (((i : Int) + 1 + (m : Int))).toNat = i + 1 + m := by omega
    have hb15 : (0 : Int) ≤ (i : Int) + 1 + (m : Int) := by omega
    go_region_law (refine step_copy_run rfl _ _ 38 38 rfl (.slice (some ⟨g, (i + 1) * 3, none⟩) m (c - (i + 1))) (.slice (some ⟨g, (i + 1) * 3, none⟩) m (c - (i + 1))) _ (by simp [Act.eval, Act.put]) (by simp [Act.eval, Act.put]) (hcp2 _ _ _ _ _ _ _ _ rfl rfl rfl rfl) ?_)
    go_wp2_with fail
    all_goals go_ret
    all_goals first
      | exact HF.out _
      | (have hce : c = i + 1 + m := by assumption
         have hf := HF.out
         rw [hce] at hf
         exact hf _)
  · have hcl := fun nq ty c' => run_clear_r _ ty g ((i + 1 + (L.length - j)) * 3) (L.length - (i + 1 + (L.length - j))) c' _ (hg2 nq) (by omega) (by rw [List.length_append, hAl, hTl]; omega)
    rw [splice_left _ _ _ _ hAl] at hcl
    obtain ⟨T3, hT3⟩ : ∃ T3, T3 = zruns (L.length - (i + 1 + (L.length - j))) ++ T.drop (zruns (L.length - (i + 1 + (L.length - j)))).length := ⟨_, rfl⟩
    have hT3l : T3.length = T.length := by rw [hT3, List.length_append, List.length_drop, zruns_len, hTl]; omega
    rw [← hT3] at hcl
    have hg3 := fun nq => setRow_heap _ g _ (A ++ T3).toArray 98 _ (hg2 nq)
    have HF : Hid (∀ nq, LPost w (.slice (some ⟨g, 0, none⟩) L.length c) (L.take i ++ [x] ++ L.drop j) (.returned (.slice (some ⟨g, 0, none⟩) (i + 1 + (L.length - j)) c)) ((((w.drewN nq).setRow g (P ++ (x.cells ++ (M.drop 3 ++ (Q ++ R)))).toArray).drew.setRow g (A ++ T).toArray).setRow g (A ++ T3).toArray)) := fun nq => by
      refine ⟨_, rfl, lst_open2 _ _ hl' A T3 hA (hg3 nq) (by omega) hcm (by rw [List.length_append, hAl, hT3l, hTl]; omega), .inl rfl, (hE2 nq).trans (Ext.setRow _ _ _ _ (by simp))⟩
    generalize (A ++ T3).toArray = Z3 at *
    generalize L.take i ++ [x] ++ L.drop j = L' at *
    generalize (A ++ T).toArray = Z2 at *
    generalize (P ++ (x.cells ++ (M.drop 3 ++ (Q ++ R)))).toArray = Z1 at *
    clear hx hL hg hcs hck hC hPl hMl hQl hRl hR hg1 hg1d hg2 hg3 hE2 hl' eA hAl hA hP hM hQ hT hTl hT3 hT3l eM e2 hq1 hg0
    generalize hn : L.length = n at *
    clear hn
    unfold maxLen at hcm
    have hb1 : ¬ (c = i + 1) := by omega
    have hb2 : ¬ (c = i) := by omega
    have hb3 : ¬ (c = j) := by omega
    have hb4 : (i : Int) ≤ n := by omega
    have htn : ((i : Int) + 1).toNat = i + 1 := by omega
    go_enter Tryz.func132, Tryz.ntmps132
    have htn2 : ((i : Int) + 1 + ((n - j : Nat) : Int)).toNat = i + 1 + (n - j) := by omega
    have hw1 : IntKind.i64.wrap ((i : Int) + 1) = (i : Int) + 1 := by rw [IntKind.wrap_i64]; omega
    have hb5 : ¬ (c = i + 1 + (n - j)) := by omega
    have hb6 : (i : Int) + 1 + ((n - j : Nat) : Int) ≤ n := by omega
    have hb7 : (i : Int) ≤ (i : Int) + 1 + ((n - j : Nat) : Int) := by omega
    have hb8 : (i : Int) + 1 ≤ (i : Int) + 1 + ((n - j : Nat) : Int) := by omega
    have hb9 : (0 : Int) ≤ (i : Int) + 1 := by omega
    have hb10 : j ≤ n := by omega
    have hb11 : (j : Int) ≤ n := by omega
    go_wp2_with fail
    go_quiet (fail)
    go_wp2_with fail
    go_region_law (refine step_copy_run rfl _ _ 38 38 rfl (.slice (some ⟨g, (i + 1) * 3, none⟩) (n - j) (c - (i + 1))) (.slice (some ⟨g, j * 3, none⟩) (n - j) (c - j)) _ (by simp [Act.eval, Act.put]) (by simp [Act.eval, Act.put]) (hcp2 _ _ _ _ _ _ _ _ rfl rfl rfl rfl) ?_)
    go_wp2_with fail
    go_ret
    exact HF.out _

/-- slices.Replace of some runs by one. -/
theorem replace_any (v : Value) (i j : Nat) (L : List Rn) (w : World) (hL : Lst w v L) (hi : i < j) (hj : j ≤ L.length) (hlen : L.length ≤ 100000) (vb : Nat) (x : Rn) (hx : One w vb x) :
    Calls Tryz.prog 132 #[v, .int .i64 i, .int .i64 j, .slice (some ⟨vb, 0, none⟩) 1 1] w (LPost w v (L.take i ++ [x] ++ L.drop j)) := by
  obtain ⟨g, c, rfl, _⟩ := hL.at_ (by omega)
  by_cases he : j = L.length
  · subst he
    rw [List.drop_length, List.append_nil]
    exact replace_end g c i L w hL hi hlen vb x hx
  · exact replace_mid g c i j L w hL hi (by omega) hlen vb x hx

end Go.Proofs.YtjbbomokgpoilaaGreatDoor

/-
  Largest: the longest free run; no statement is proved here.
-/
namespace Go.Proofs.YtjbbomokgpoilaaGreatDoor
open Go.RowKit Go.Shelf

attribute [local go_sem] Oper.semAt_some

/-- The length of the longest free run. -/
def big (L : List Rn) : Nat := L.foldl (fun m r => if r.u then m else max m r.n) 0
theorem big_snoc (L : List Rn) (r : Rn) : big (L ++ [r]) = if r.u then big L else max (big L) r.n := by simp [big]

theorem rowAt_own {β : Type} (B : Nat) (t : TypeId) (cs : β → Array Value) : Own (fun s W => W.heap[B]? = some (.cells (cs s) t (0, 0))) := fun s X Y row hs hg hrow => by
  refine (hg.block B (Array.getElem?_eq_some_iff.1 hs).1 (fun e => ?_)).trans hs
  obtain ⟨o, ho, hc⟩ := hrow B e.symm
  rw [hs] at ho; cases ho; cases hc

/-- What a call of the program's own iterator answers. -/
def NowOf (w : World) (pv : Option Addr) (v : Value) : Prop := ∀ W, Ext [] w W → Calls Tryz.prog 122 #[.pointer pv] W fun e w' => e = .returned (itv W.heap.size) ∧ w' = W.alloc (.cells #[v] 38)
theorem nowOf_nil (w : World) : NowOf w none (.slice none 0 0) := fun W _ => now_nil W
theorem nowOf_any {T : TypeId} {ox : Nat} {cs : Array Value} {w : World} {p : Nat} {v : Value} {L : List Rn} (hR : Rs T ox cs w p v L) : NowOf w (some ⟨p, ox + 1, none⟩) v := fun W h => now_any p v L W (hR.keep0 h)

set_option maxRecDepth 100000 in
set_option maxHeartbeats 4000000 in
theorem largest_of (pv : Option Addr) (v : Value) (L : List Rn) (w : World) (hN : NowOf w pv v) (hL : Lst w v L) (hlen : L.length ≤ 1000000) : Calls Tryz.prog 93 #[.pointer pv] w (SayPost w (.int .i64 (big L))) := by
  refine (callsIn_wide (n := 8)).1 ?_
  refine callsIn_of_wp_marks Tryz.func93 rfl trivial ?_ rfl
  simp only [Tryz.ntmps93, List.size_toArray, List.length_cons, List.length_nil, Nat.reduceAdd, Nat.reduceSub, Array.replicate_succ, Array.replicate_zero, List.push_toArray, List.append_toArray, List.nil_append, List.cons_append]
  have hlt := hL.lt
  have K := hN _ (Ext.alloc [] w (.cells #[.int .i64 0] 3))
  have HL := hid hL
  clear hL hN
  gi_wp2_with (refine ⟨trivial, ?_⟩; gi_at_call 122; refine (callsIn_wide.2 K).mono ?_; rintro e w' ⟨rfl, rfl⟩)
  clear K
  have bS := (Boxed.new w 3 (.int .i64 0)).alloc (.cells #[v] 38)
  have bN := Boxed.new (w.alloc (.cells #[.int .i64 0] 3)) 38 v
  rw [World.size_alloc] at bN
  have hE0 : Ext [] w ((w.alloc (.cells #[.int .i64 0] 3)).alloc (.cells #[v] 38)) := (Ext.alloc [] _ _).trans (Ext.alloc [] _ _)
  have hsz : ((w.alloc (.cells #[.int .i64 0] 3)).alloc (.cells #[v] 38)).heap.size = w.heap.size + 2 := by simp
  obtain ⟨W0, hW0⟩ : ∃ W0, (w.alloc (.cells #[.int .i64 0] 3)).alloc (.cells #[v] 38) = W0 := ⟨_, rfl⟩
  rw [hW0] at bS bN hE0 hsz ⊢
  clear hW0
  have hL0 := HL.out.keep0 hE0
  refine wpIn_rangeFunc_ownH rfl (by omega) (gf := 127) (lb := #[.pointer (some ⟨w.heap.size + 1, 0, none⟩)]) rfl trivial (enters_of Tryz.func127 (by kernel_rfl) rfl)
    (each_stops Fence.wide _ trivial rfl (by omega) (w.heap.size + 1) v L hlen W0 bN hL0) klK_t (klK_b (by omega) (fun g hg => by have := hlt g hg; omega)) (Below.refl _ _) (fun _ => rfl)
    (fun pre W => Boxed W w.heap.size 3 (.int .i64 (big pre)) ∧ Below w.heap.size w W)
    (fun _ _ _ => False)
    (OwnFrom.and (Own.from (boxed_own _ _ _) _) (ownFrom_below (Nat.le_refl _) (by omega)))
    (fun _ _ _ _ _ hs _ _ => hs)
    ⟨bS, hE0.below⟩
    (fun x a' W => ∃ Bx, w.heap.size < Bx ∧ W.heap[Bx]? = some (.cells #[.int .i64 x.s, .int .i64 x.n, .bool x.u] 98 (0, 0)) ∧ a' = { tmps := #[.pointer pv, undef, .int .i64 0, .pointer (some ⟨w.heap.size, 0, none⟩), .pointer (some ⟨Bx, 0, none⟩), .pointer pv, itv (w.heap.size + 1), .agg #[.int .i64 x.s, .int .i64 x.n, .bool x.u], undef, undef, undef, undef, undef, undef, undef, undef], defers := [] })
    (fun x a' _ X Y row hs hg hr => by obtain ⟨Bx, h1, h2, h3⟩ := hs; exact ⟨Bx, h1, rowAt_own Bx 98 (fun _ : Unit => #[.int .i64 x.s, .int .i64 x.n, .bool x.u]) () X Y row h2 hg (fun r e => (hr r e).2), h3⟩)
    ?assign ?body ?done ?stop
  case assign =>
    rintro l pre x W K ⟨bS1, hB1⟩ hK
    gi_wp2
    exact hK _ _ ((KeepsOthers.alloc _ _).from _) (Kl.of_ext0 (Ext.alloc [] _ _)) ⟨bS1.alloc _, hB1.alloc hB1.size _⟩ ⟨W.heap.size, bS1.lt, heap_alloc_new _ _, rfl⟩
  case body =>
    rintro l pre x a' W hl ⟨r, hr⟩ ⟨bS1, hB1⟩ ⟨Bx, hBx, bX, rfl⟩ _
    have cS := bS1.cell
    have fS := bS1.frozen
    have c1 : W.cell? ⟨Bx, 1, none⟩ = some (.int .i64 x.n) := by rw [cell_of_row _ _ _ _ _ _ bX]; rfl
    have c2 : W.cell? ⟨Bx, 2, none⟩ = some (.bool x.u) := by rw [cell_of_row _ _ _ _ _ _ bX]; rfl
    have HS := big_snoc pre x
    have HB := hid bS1
    clear bS1
    cases hu : x.u
    · rw [hu] at c2 HS
      have HS2 : Hid (big (pre ++ [x]) = max (big pre) x.n) := by simp at HS; exact HS
      clear HS hu
      have hKl : ∀ u, Kl (w.heap.size + 1) v W (W.setCell ⟨w.heap.size, 0, none⟩ u) := fun u => Kl.of_ext (Ext.setCell [w.heap.size] _ _ _ (by simp)) (by simp) (fun g hg => by have := hlt g hg; simp; omega)
      gi_wp2
      · exact ⟨(KeepsOthers.setCell _ _ _).from _, hKl _, by rw [HS2.out, show max (big pre) x.n = x.n by omega]; exact HB.out.set _, hB1.setCell (p := ⟨w.heap.size, 0, none⟩) (Nat.le_refl _) _⟩
      · exact ⟨(KeepsOthers.setCell _ _ _).from _, hKl _, by rw [HS2.out, show max (big pre) x.n = big pre by omega]; exact HB.out.set _, hB1.setCell (p := ⟨w.heap.size, 0, none⟩) (Nat.le_refl _) _⟩
    · rw [hu] at c2 HS
      have HS2 : Hid (big (pre ++ [x]) = big pre) := by simp at HS; exact HS
      clear HS hu
      gi_wp2
      exact ⟨KeepsFrom.refl _ _, Kl.refl _ _ _, by rw [HS2.out]; exact HB.out, hB1⟩
  case done =>
    rintro D zs W hD rfl ⟨bS1, hB1⟩ hK
    have cS := bS1.cell
    gi_wp2
    refine ⟨by simp, .inl ⟨_, _, rfl, run_takeDeferred hK, ?_⟩⟩
    exact ⟨_, results_tmp rfl _ _ _, rfl, below_ext (hB1.trans (belowK_b (w := w) (Nat.le_refl _) W D _ _ (by omega) hK rfl rfl))⟩
  case stop =>
    rintro D c pre W _ _ h _
    exact h.elim

end Go.Proofs.YtjbbomokgpoilaaGreatDoor
