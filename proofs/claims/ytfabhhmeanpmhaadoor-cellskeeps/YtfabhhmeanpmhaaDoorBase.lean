/-
  Worlds, slices and tables of types as they lie in memory; no statement is proved here.
-/
import Derived.Test.YtfabhhmeanpmhaaDoorRows
import Derived.Test.YtfabhhmeanpmhaaDoorVars
import Derived.WalkKit
import Derived.ProofKit
import Derived.Laws.CopyOwn
import Derived.Laws.OwnMore
import Derived.Deep.QuietTactic
import Derived.BigQuiet
import Derived.Deep.WholeRow
import Derived.Deep.RegionHeld3
namespace Go.Proofs.YtfabhhmeanpmhaaDoor
open Go.RowKit

/-! ### contracts met in a walk -/

/-- A callee that answers v and leaves the world as it is. -/
theorem met {P : Program} {f : FuncId} {args : Array Value} {w : World} {v : Value} {K : Ending → World → Prop} (h : Calls P f args w fun e w' => e = .returned v ∧ w' = w) (hK : K (.returned v) w) : Calls P f args w K :=
  h.mono (by rintro _ _ ⟨rfl, rfl⟩; exact hK)

/-! ### worlds -/

/-- The world w' is as w was but for the blocks of S and for what is new. -/
structure Ext (S : List Nat) (w w' : World) : Prop where
  os : w'.os = w.os
  tape : w'.tape = w.tape
  output : w'.output = w.output
  size : w.heap.size ≤ w'.heap.size
  block : ∀ k, k < w.heap.size → k ∉ S → w'.heap[k]? = w.heap[k]?

theorem Ext.refl (S : List Nat) (w : World) : Ext S w w := ⟨rfl, rfl, rfl, Nat.le_refl _, fun _ _ _ => rfl⟩
theorem Ext.trans {S : List Nat} {a b c : World} (h : Ext S a b) (k : Ext S b c) : Ext S a c :=
  ⟨k.os.trans h.os, k.tape.trans h.tape, k.output.trans h.output, Nat.le_trans h.size k.size, fun i hi hs => (k.block i (Nat.lt_of_lt_of_le hi h.size) hs).trans (h.block i hi hs)⟩
theorem Ext.mono {S T : List Nat} {a b : World} (h : Ext S a b) (hs : ∀ x ∈ S, x ∈ T) : Ext T a b :=
  ⟨h.os, h.tape, h.output, h.size, fun i hi hk => h.block i hi (fun q => hk (hs i q))⟩
/-- Blocks that are new need not be named. -/
theorem Ext.drop {S T : List Nat} {a b : World} (h : Ext S a b) (hs : ∀ x ∈ S, x ∈ T ∨ a.heap.size ≤ x) : Ext T a b :=
  ⟨h.os, h.tape, h.output, h.size, fun i hi hk => h.block i hi (fun q => by rcases hs i q with r | r; exact hk r; omega)⟩
theorem Ext.below {a b : World} (h : Ext [] a b) : Below a.heap.size a b := ⟨h.os, h.tape, h.output, h.size, fun k hk => h.block k hk (by simp)⟩
theorem Ext.drew (S : List Nat) (w : World) : Ext S w w.drew := ⟨rfl, rfl, rfl, Nat.le_refl _, fun _ _ _ => rfl⟩
theorem Ext.drewN (S : List Nat) (w : World) (n : Nat) : Ext S w (w.drewN n) := ⟨rfl, rfl, rfl, Nat.le_refl _, fun _ _ _ => rfl⟩
theorem Ext.alloc (S : List Nat) (w : World) (o : Obj) : Ext S w (w.alloc o) := ⟨rfl, rfl, rfl, by simp, fun k hk _ => Below.heap_alloc w o k hk⟩
theorem Ext.setCell (S : List Nat) (w : World) (a : Addr) (v : Value) (h : a.block ∈ S) : Ext S w (w.setCell a v) :=
  ⟨rfl, rfl, rfl, by simp, fun k _ hs => heap_setCell_other w a k v (fun e => hs (e ▸ h))⟩
theorem Ext.setRow (S : List Nat) (w : World) (g : Nat) (cs : Array Value) (h : g ∈ S) : Ext S w (w.setRow g cs) :=
  ⟨rfl, rfl, rfl, by simp, fun k _ hs => setRow_other w g k cs (fun e => hs (e ▸ h))⟩
theorem Ext.grown {S : List Nat} {w w' : World} {row : Option Nat} (hg : w.grownBy w' row) (h : ∀ k, row = some k → k ∈ S) : Ext S w w' :=
  ⟨hg.os, hg.tape, hg.output, hg.size, fun k hk hs => hg.block k hk (fun e => hs (h k e.symm))⟩
/-- Behind a step that turned only what is new since a. -/
theorem Ext.on {S : List Nat} {a b c : World} (h : Ext [] a b) (k : Ext S b c) (hs : ∀ x ∈ S, a.heap.size ≤ x) : Ext [] a c :=
  ((h.mono (by simp)).trans k).drop (fun x hx => .inr (hs x hx))

theorem lt_of_heap {w : World} {k : Nat} {o : Obj} (h : w.heap[k]? = some o) : k < w.heap.size := (Array.getElem?_eq_some_iff.1 h).1
theorem Ext.keep {S : List Nat} {w w' : World} (h : Ext S w w') {k : Nat} {o : Obj} (hk : w.heap[k]? = some o) (hs : k ∉ S) : w'.heap[k]? = some o :=
  (h.block k (lt_of_heap hk) hs).trans hk
theorem Ext.cell {S : List Nat} {w w' : World} (h : Ext S w w') {a : Addr} {v : Value} (hk : w.cell? a = some v) (hs : a.block ∉ S) : w'.cell? a = some v := by
  rw [← hk]
  exact World.cell?_of_block (h.block a.block (block_lt_of_cell hk) hs)

/-- The answer v, and nothing that was there has turned. -/
def SayPost (w : World) (v : Value) (e : Ending) (w' : World) : Prop := e = .returned v ∧ Ext [] w w'

/-! ### slices -/

/-- A slice with the elements vs, each of one cell, wherever it lies. -/
def Vs (w : World) (a : Option Addr) (vs : List Value) : Prop :=
  vs = [] ∨ ∃ b o, a = some ⟨b, o, none⟩ ∧ ∀ j, j < vs.length → w.cell? ⟨b, o + j, none⟩ = vs[j]?

theorem Vs.keep {S : List Nat} {w w' : World} {a : Option Addr} {vs : List Value} (h : Vs w a vs) (e : Ext S w w') (hs : ∀ ad, a = some ad → ad.block ∉ S) : Vs w' a vs := by
  rcases h with h | ⟨b, o, rfl, hc⟩
  · exact .inl h
  · refine .inr ⟨b, o, rfl, fun j hj => ?_⟩
    have h1 := hc j hj
    obtain ⟨v, hv⟩ : ∃ v, vs[j]? = some v := ⟨vs[j], by simp [hj]⟩
    rw [hv] at h1 ⊢
    exact e.cell h1 (hs ⟨b, o, none⟩ rfl)
theorem Vs.keep0 {w w' : World} {a : Option Addr} {vs : List Value} (h : Vs w a vs) (e : Ext [] w w') : Vs w' a vs := h.keep e (by simp)

/-- A slice of ints. -/
def Is (w : World) (a : Option Addr) (xs : List Int) : Prop := Vs w a (xs.map (Value.int .i64))
theorem Is.keep0 {w w' : World} {a : Option Addr} {xs : List Int} (h : Is w a xs) (e : Ext [] w w') : Is w' a xs := Vs.keep0 h e
theorem Is.at_ {w : World} {a : Option Addr} {xs : List Int} (h : Is w a xs) (h0 : xs ≠ []) : ∃ b o, a = some ⟨b, o, none⟩ ∧ ∀ j, j < xs.length → w.cell? ⟨b, o + j, none⟩ = some (.int .i64 (xs.getD j 0)) := by
  rcases h with h | ⟨b, o, h, hc⟩
  · simp at h; exact absurd h h0
  · refine ⟨b, o, h, fun j hj => ?_⟩
    rw [hc j (by simpa using hj)]; simp [hj]

/-- A slice of bytes. -/
def Bs (w : World) (a : Option Addr) (xs : List Int) : Prop := Vs w a (xs.map (Value.int .u8))
theorem Bs.keep0 {w w' : World} {a : Option Addr} {xs : List Int} (h : Bs w a xs) (e : Ext [] w w') : Bs w' a xs := Vs.keep0 h e
theorem Bs.at_ {w : World} {a : Option Addr} {xs : List Int} (h : Bs w a xs) (h0 : xs ≠ []) : ∃ b o, a = some ⟨b, o, none⟩ ∧ ∀ j, j < xs.length → w.cell? ⟨b, o + j, none⟩ = some (.int .u8 (xs.getD j 0)) := by
  rcases h with h | ⟨b, o, h, hc⟩
  · simp at h; exact absurd h h0
  · refine ⟨b, o, h, fun j hj => ?_⟩
    rw [hc j (by simpa using hj)]; simp [hj]

/-- A slice of bools. -/
def Os (w : World) (a : Option Addr) (xs : List Bool) : Prop := Vs w a (xs.map Value.bool)
theorem Os.keep0 {w w' : World} {a : Option Addr} {xs : List Bool} (h : Os w a xs) (e : Ext [] w w') : Os w' a xs := Vs.keep0 h e
theorem Os.at_ {w : World} {a : Option Addr} {xs : List Bool} (h : Os w a xs) (h0 : xs ≠ []) : ∃ b o, a = some ⟨b, o, none⟩ ∧ ∀ j, j < xs.length → w.cell? ⟨b, o + j, none⟩ = some (.bool (xs.getD j false)) := by
  rcases h with h | ⟨b, o, h, hc⟩
  · simp at h; exact absurd h h0
  · refine ⟨b, o, h, fun j hj => ?_⟩
    rw [hc j (by simpa using hj)]; simp [hj]

/-! ### tables -/

/-- A type by value. -/
def tyVal (t : Ty) (fa : Option Addr) (fc : Nat) : Value := .agg #[.int .i64 t.kind, .int .i64 t.elem, .int .i64 t.key, .int .i64 t.len, .slice fa t.fields.length fc]

/-- What goes for a type's list of fields. -/
def FOk (w : World) (t : Ty) (fa : Option Addr) : Prop := Is w fa t.fields ∧ t.fields.length ≤ 17592186044416

/-- A type in memory. -/
structure TyAt (w : World) (b o : Nat) (t : Ty) (fa : Option Addr) (fc : Nat) : Prop where
  c0 : w.cell? ⟨b, o, none⟩ = some (.int .i64 t.kind)
  c1 : w.cell? ⟨b, o + 1, none⟩ = some (.int .i64 t.elem)
  c2 : w.cell? ⟨b, o + 2, none⟩ = some (.int .i64 t.key)
  c3 : w.cell? ⟨b, o + 3, none⟩ = some (.int .i64 t.len)
  c4 : w.cell? ⟨b, o + 4, none⟩ = some (.slice fa t.fields.length fc)
  f : FOk w t fa

theorem FOk.keep0 {w w' : World} {t : Ty} {fa : Option Addr} (h : FOk w t fa) (e : Ext [] w w') : FOk w' t fa := ⟨h.1.keep0 e, h.2⟩
theorem TyAt.keep0 {w w' : World} {b o : Nat} {t : Ty} {fa : Option Addr} {fc : Nat} (h : TyAt w b o t fa fc) (e : Ext [] w w') : TyAt w' b o t fa fc :=
  ⟨e.cell h.c0 (by simp), e.cell h.c1 (by simp), e.cell h.c2 (by simp), e.cell h.c3 (by simp), e.cell h.c4 (by simp), h.f.keep0 e⟩

/-- A table in memory. -/
structure Tab (w : World) (a : Option Addr) (ts : List Ty) : Prop where
  at_ : ts = [] ∨ ∃ b o, a = some ⟨b, o, none⟩ ∧ ∀ i, i < ts.length → ∃ fa fc, TyAt w b (o + i * 5) (tyAt ts i) fa fc
  len : ts.length ≤ 2513169434843

theorem Tab.keep0 {w w' : World} {a : Option Addr} {ts : List Ty} (h : Tab w a ts) (e : Ext [] w w') : Tab w' a ts := by
  refine ⟨?_, h.len⟩
  rcases h.at_ with h | ⟨b, o, rfl, hc⟩
  · exact .inl h
  · refine .inr ⟨b, o, rfl, fun i hi => ?_⟩
    obtain ⟨fa, fc, ht⟩ := hc i hi
    exact ⟨fa, fc, ht.keep0 e⟩

theorem Tab.addr {w : World} {a : Option Addr} {ts : List Ty} (h : Tab w a ts) (h0 : 0 < ts.length) : ∃ b o, a = some ⟨b, o, none⟩ ∧ ∀ i, i < ts.length → ∃ fa fc, TyAt w b (o + i * 5) (tyAt ts i) fa fc := by
  rcases h.at_ with rfl | h
  · simp at h0
  · exact h

end Go.Proofs.YtfabhhmeanpmhaaDoor
