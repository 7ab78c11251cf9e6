/-
  A heap as it lies in memory, wherever its struct lies; no statement is proved here.
-/
import Derived.Test.YtlajjcboahflbaaDoorHMath
import Derived.Test.YtlajjcboahflbaaDoorNil
namespace Go.Proofs.YtlajjcboahflbaaDoor
open Go.RowKit

/-! ### worlds that differ in some blocks -/

/-- The world w' is as w was but for blocks of B and for what is new. -/
structure Fx (B : Nat → Prop) (w w' : World) : Prop where
  os : w'.os = w.os
  tape : w'.tape = w.tape
  output : w'.output = w.output
  size : w.heap.size ≤ w'.heap.size
  block : ∀ k, k < w.heap.size → ¬ B k → w'.heap[k]? = w.heap[k]?

theorem Fx.refl (B : Nat → Prop) (w : World) : Fx B w w := ⟨rfl, rfl, rfl, Nat.le_refl _, fun _ _ _ => rfl⟩
theorem Fx.of_ext {B : Nat → Prop} {S : List Nat} {w w' : World} (h : Ext S w w') (hs : ∀ x ∈ S, B x ∨ w.heap.size ≤ x) : Fx B w w' :=
  ⟨h.os, h.tape, h.output, h.size, fun k hk hb => h.block k hk (fun q => by rcases hs k q with r | r; exact hb r; omega)⟩
theorem Fx.of_ext0 {B : Nat → Prop} {w w' : World} (h : Ext [] w w') : Fx B w w' := Fx.of_ext h (by simp)
/-- What comes behind may turn what is new besides. -/
theorem Fx.trans {B C : Nat → Prop} {a b c : World} (h : Fx B a b) (k : Fx C b c) (hc : ∀ x, C x → B x ∨ a.heap.size ≤ x) : Fx B a c :=
  ⟨k.os.trans h.os, k.tape.trans h.tape, k.output.trans h.output, Nat.le_trans h.size k.size, fun i hi hs => (k.block i (Nat.lt_of_lt_of_le hi h.size) (fun q => by rcases hc i q with r | r; exact hs r; omega)).trans (h.block i hi hs)⟩
theorem Fx.mono {B C : Nat → Prop} {a b : World} (h : Fx B a b) (hs : ∀ x, B x → C x) : Fx C a b :=
  ⟨h.os, h.tape, h.output, h.size, fun i hi hk => h.block i hi (fun q => hk (hs i q))⟩
/-- Behind a step that turned only what is new since a. -/
theorem Fx.on {B : Nat → Prop} {a b c : World} (h : Ext [] a b) (k : Fx B b c) (hs : ∀ x, B x → a.heap.size ≤ x) : Ext [] a c :=
  ⟨k.os.trans h.os, k.tape.trans h.tape, k.output.trans h.output, Nat.le_trans h.size k.size, fun i hi _ => (k.block i (Nat.lt_of_lt_of_le hi h.size) (fun q => by have := hs i q; omega)).trans (h.block i hi (by simp))⟩
theorem Fx.keep {B : Nat → Prop} {w w' : World} (h : Fx B w w') {k : Nat} {o : Obj} (hk : w.heap[k]? = some o) (hs : ¬ B k) : w'.heap[k]? = some o :=
  (h.block k (lt_of_heap hk) hs).trans hk
theorem Fx.cell {B : Nat → Prop} {w w' : World} (h : Fx B w w') {a : Addr} {v : Value} (hk : w.cell? a = some v) (hs : ¬ B a.block) : w'.cell? a = some v := by
  rw [← hk]
  exact World.cell?_of_block (h.block a.block (block_lt_of_cell hk) hs)
theorem Fx.ext0 {B : Nat → Prop} {w w' : World} (h : Fx B w w') (hs : ∀ x, B x → w.heap.size ≤ x) : Ext [] w w' :=
  ⟨h.os, h.tape, h.output, h.size, fun k hk _ => h.block k hk (fun q => by have := hs k q; omega)⟩

/-! ### a heap -/

/-- A heap: its struct's three cells lie in block p from place ox on; cs is what else the block holds. -/
structure Hm (w : World) (p ox : Nat) (T : TypeId) (cs : Array Value) (F : Nat → Prop) (H : Hs) (ag og : Nat) (V : Value) (sb : Nat → Nat × Nat) (O : List (Option Nat)) : Prop where
  box : Bx T ox cs w p V
  ty : T ≠ 5 ∧ T ≠ 85 ∧ T ≠ 106 ∧ T ≠ 115
  ca : cs[ox]? = some (.slice (some ⟨ag, 0, none⟩) H.B.length H.B.length)
  co : cs[ox + 2]? = some (.slice (some ⟨og, 0, none⟩) O.length O.length)
  bytes : Row w ag H.B
  runs : Lst w V H.R
  owners : w.heap[og]? = some (.cells (ocells O).toArray 85 (0, 0))
  olen : O.length = H.P
  own : ∀ i, i < H.P → O.getD i none = (spanAt H.sp i).map fun x => (sb x.st).1
  spans : ∀ x ∈ H.sp, Sp w (sb x.st).1 (sb x.st).2 x.st x.n x.rm (us x.S) x.S
  inj : ∀ x ∈ H.sp, ∀ y ∈ H.sp, x.st ≠ y.st → (sb x.st).1 ≠ (sb y.st).1 ∧ (sb x.st).2 ≠ (sb y.st).2
  fa : F ag
  fo : F og
  fv : ∀ g, V.ownBlock = some g → F g
  fs : ∀ x ∈ H.sp, F (sb x.st).1 ∧ F (sb x.st).2
  np : ¬ F p
  ok : Hv H
/-- A heap of these blocks besides p. -/
def Hw (w : World) (p ox : Nat) (T : TypeId) (cs : Array Value) (F : Nat → Prop) (H : Hs) : Prop := ∃ ag og V sb O, Hm w p ox T cs F H ag og V sb O

section
variable {w : World} {p ox : Nat} {T : TypeId} {cs : Array Value} {F : Nat → Prop} {H : Hs} {ag og : Nat} {V : Value} {sb : Nat → Nat × Nat} {O : List (Option Nat)}

theorem Hm.rs (h : Hm w p ox T cs F H ag og V sb O) : Rs T ox cs w p V H.R := ⟨h.box, h.runs⟩
theorem Hm.ar (h : Hm w p ox T cs F H ag og V sb O) : Ar ox w p ag H.B := by
  refine ⟨⟨_, T, h.box.at_, h.ty.1, ?_⟩, h.bytes, ?_, h.ok.bt⟩
  · rw [Array.getElem?_setIfInBounds, if_neg (by omega)]; exact h.ca
  · have := h.ok.bl; have := h.ok.P1; omega
theorem Hm.ow (h : Hm w p ox T cs F H ag og V sb O) : Ow ox w p og O := by
  refine ⟨⟨_, T, h.box.at_, h.ty.2.1, ?_⟩, h.owners⟩
  rw [Array.getElem?_setIfInBounds, if_neg (by omega)]; exact h.co
theorem Hm.pt (h : Hm w p ox T cs F H ag og V sb O) : p < w.heap.size := lt_of_heap h.box.at_
theorem Hm.o1 (h : Hm w p ox T cs F H ag og V sb O) : O.length ≤ 1024 := by rw [h.olen]; exact h.ok.P1

/-- What leaves a heap's blocks alone leaves the heap alone. -/
theorem Hm.keep {B : Nat → Prop} {w' : World} (h : Hm w p ox T cs F H ag og V sb O) (x : Fx B w w') (hp : ¬ B p) (hf : ∀ k, F k → ¬ B k) : Hm w' p ox T cs F H ag og V sb O := by
  refine ⟨⟨x.keep h.box.at_ hp, h.box.sz, h.box.ty⟩, h.ty, h.ca, h.co, x.keep h.bytes (hf _ h.fa), ?_, x.keep h.owners (hf _ h.fo), h.olen, h.own, fun y hy => ?_, h.inj, h.fa, h.fo, h.fv, h.fs, h.np, h.ok⟩
  · refine ⟨h.runs.1, ?_⟩
    rcases h.runs.2 with q | ⟨g, cap, cur, hv, h1, h2, h3⟩
    · exact .inl q
    · exact .inr ⟨g, cap, cur, hv, h1, x.keep h2 (hf _ (h.fv g (by rw [hv]; rfl))), h3⟩
  · exact ⟨x.keep (h.spans y hy).box (hf _ (h.fs y hy).1), x.keep (h.spans y hy).row (hf _ (h.fs y hy).2)⟩
theorem Hw.keep {B : Nat → Prop} {w' : World} (h : Hw w p ox T cs F H) (x : Fx B w w') (hp : ¬ B p) (hf : ∀ k, F k → ¬ B k) : Hw w' p ox T cs F H := by
  obtain ⟨ag, og, V, sb, O, h⟩ := h
  exact ⟨ag, og, V, sb, O, h.keep x hp hf⟩
theorem Hm.keep0 {w' : World} (h : Hm w p ox T cs F H ag og V sb O) (x : Ext [] w w') : Hm w' p ox T cs F H ag og V sb O := h.keep (B := fun _ => False) (Fx.of_ext0 x) (fun h => h) (fun _ _ h => h)
theorem Hw.keep0 {w' : World} (h : Hw w p ox T cs F H) (x : Ext [] w w') : Hw w' p ox T cs F H := h.keep (B := fun _ => False) (Fx.of_ext0 x) (fun h => h) (fun _ _ h => h)
/-- The footprint may be cut to what there is, or widened. -/
theorem Hm.there (h : Hm w p ox T cs F H ag og V sb O) : Hm w p ox T cs (fun k => F k ∧ k < w.heap.size) H ag og V sb O := by
  refine ⟨h.box, h.ty, h.ca, h.co, h.bytes, h.runs, h.owners, h.olen, h.own, h.spans, h.inj, ⟨h.fa, lt_of_heap h.bytes⟩, ⟨h.fo, lt_of_heap h.owners⟩, fun g hg => ⟨h.fv g hg, h.runs.lt g hg⟩, fun x hx => ⟨⟨(h.fs x hx).1, lt_of_heap (h.spans x hx).box⟩, ⟨(h.fs x hx).2, lt_of_heap (h.spans x hx).row⟩⟩, fun q => h.np q.1, h.ok⟩
theorem Hm.foot {G : Nat → Prop} (h : Hm w p ox T cs F H ag og V sb O) (hg : ∀ k, F k → G k) (hp : ¬ G p) : Hm w p ox T cs G H ag og V sb O := by
  refine ⟨h.box, h.ty, h.ca, h.co, h.bytes, h.runs, h.owners, h.olen, h.own, h.spans, h.inj, hg _ h.fa, hg _ h.fo, fun g q => hg _ (h.fv g q), fun x hx => ⟨hg _ (h.fs x hx).1, hg _ (h.fs x hx).2⟩, hp, h.ok⟩
theorem Hw.ok (h : Hw w p ox T cs F H) : Hv H := by obtain ⟨_, _, _, _, _, h⟩ := h; exact h.ok
theorem Hw.np (h : Hw w p ox T cs F H) : ¬ F p := by obtain ⟨_, _, _, _, _, h⟩ := h; exact h.np
theorem Hw.lt (h : Hw w p ox T cs F H) : p < w.heap.size := by obtain ⟨_, _, _, _, _, h⟩ := h; exact h.pt

end

/-- How a heap has turned, and what was answered. -/
def HPost (w : World) (p ox : Nat) (T : TypeId) (cs : Array Value) (F : Nat → Prop) (H' : Hs) (r : Value) (e : Ending) (w' : World) : Prop :=
  e = .returned r ∧ ∃ F', Hw w' p ox T cs F' H' ∧ Fx (fun k => k = p ∨ F k) w w' ∧ ∀ k, F' k → F k ∨ w.heap.size ≤ k

end Go.Proofs.YtlajjcboahflbaaDoor
