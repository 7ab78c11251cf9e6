/-
  HMem, Spans, QuietR, OpenS: joined by program; no statement is proved here.
-/
import Derived.Test.YtbpjmcjjambdkaaGreatDoorZAM
import Derived.Sort.QuietThIn
import Derived.Sort.BigQuietIn
import Derived.TacticsIn
/-
  A heap as it lies in memory, wherever its struct lies; no statement is proved here.
-/
namespace Go.Proofs.YtbpjmcjjambdkaaGreatDoor
open Go.RowKit

/-! ### worlds that differ in some blocks -/

/-- The world w' is as w was but for blocks of B and for what is new. -/
structure Fx (B : Nat → Prop) (w w' : World) : Prop where
  os : w'.os = w.os
  tape : w'.tape = w.tape
  output : w'.output = w.output
  size : w.heap.size ≤ w'.heap.size
  block : ∀ k, k < w.heap.size → ¬ B k → w'.heap[k]? = w.heap[k]?

theorem Fx.refl (B : Nat → Prop) (w : World) : Fx B w w := ⟨rfl, rfl, rfl, Nat.le_refl _, fun _ _ _ => rfl⟩
theorem Fx.of_ext {B : Nat → Prop} {S : List Nat} {w w' : World} (h : Ext S w w') (hs : ∀ x ∈ S, B x ∨ w.heap.size ≤ x) : Fx B w w' :=
  ⟨h.os, h.tape, h.output, h.size, fun k hk hb => h.block k hk (fun q => by rcases hs k q with r | r; exact hb r; omega)⟩
theorem Fx.of_ext0 {B : Nat → Prop} {w w' : World} (h : Ext [] w w') : Fx B w w' := Fx.of_ext h (by simp)
/-- What comes behind may turn what is new besides. -/
theorem Fx.trans {B C : Nat → Prop} {a b c : World} (h : Fx B a b) (k : Fx C b c) (hc : ∀ x, C x → B x ∨ a.heap.size ≤ x) : Fx B a c :=
  ⟨k.os.trans h.os, k.tape.trans h.tape, k.output.trans h.output, Nat.le_trans h.size k.size, fun i hi hs => (k.block i (Nat.lt_of_lt_of_le hi h.size) (fun q => by rcases hc i q with r | r; exact hs r; omega)).trans (h.block i hi hs)⟩
theorem Fx.mono {B C : Nat → Prop} {a b : World} (h : Fx B a b) (hs : ∀ x, B x → C x) : Fx C a b :=
  ⟨h.os, h.tape, h.output, h.size, fun i hi hk => h.block i hi (fun q => hk (hs i q))⟩
/-- Behind a step that turned only what is new since a. -/
theorem Fx.on {B : Nat → Prop} {a b c : World} (h : Ext [] a b) (k : Fx B b c) (hs : ∀ x, B x → a.heap.size ≤ x) : Ext [] a c :=
  ⟨k.os.trans h.os, k.tape.trans h.tape, k.output.trans h.output, Nat.le_trans h.size k.size, fun i hi _ => (k.block i (Nat.lt_of_lt_of_le hi h.size) (fun q => by have := hs i q; omega)).trans (h.block i hi (by simp))⟩
theorem Fx.keep {B : Nat → Prop} {w w' : World} (h : Fx B w w') {k : Nat} {o : Obj} (hk : w.heap[k]? = some o) (hs : ¬ B k) : w'.heap[k]? = some o :=
  (h.block k (lt_of_heap hk) hs).trans hk
theorem Fx.cell {B : Nat → Prop} {w w' : World} (h : Fx B w w') {a : Addr} {v : Value} (hk : w.cell? a = some v) (hs : ¬ B a.block) : w'.cell? a = some v := by
  rw [← hk]
  exact World.cell?_of_block (h.block a.block (block_lt_of_cell hk) hs)
theorem Fx.ext0 {B : Nat → Prop} {w w' : World} (h : Fx B w w') (hs : ∀ x, B x → w.heap.size ≤ x) : Ext [] w w' :=
  ⟨h.os, h.tape, h.output, h.size, fun k hk _ => h.block k hk (fun q => by have := hs k q; omega)⟩

/-! ### a heap -/

/-- A heap: its struct's three cells lie in block p from place ox on; cs is what else the block holds. -/
structure Hm (w : World) (p ox : Nat) (T : TypeId) (cs : Array Value) (F : Nat → Prop) (H : Hs) (ag og : Nat) (V : Value) (sb : Nat → Nat × Nat) (O : List (Option Nat)) : Prop where
  box : Bx T ox cs w p V
  ty : T ≠ 5 ∧ T ≠ 179 ∧ T ≠ 195 ∧ T ≠ 197
  ca : cs[ox]? = some (.slice (some ⟨ag, 0, none⟩) H.B.length H.B.length)
  co : cs[ox + 2]? = some (.slice (some ⟨og, 0, none⟩) O.length O.length)
  bytes : Row w ag H.B
  runs : Lst w V H.R
  owners : w.heap[og]? = some (.cells (ocells O).toArray 179 (0, 0))
  olen : O.length = H.P
  own : ∀ i, i < H.P → O.getD i none = (spanAt H.sp i).map fun x => (sb x.st).1
  spans : ∀ x ∈ H.sp, Sp w (sb x.st).1 (sb x.st).2 x.st x.n x.rm (us x.S) x.S
  inj : ∀ x ∈ H.sp, ∀ y ∈ H.sp, x.st ≠ y.st → (sb x.st).1 ≠ (sb y.st).1 ∧ (sb x.st).2 ≠ (sb y.st).2
  fa : F ag
  fo : F og
  fv : ∀ g, V.ownBlock = some g → F g
  fs : ∀ x ∈ H.sp, F (sb x.st).1 ∧ F (sb x.st).2
  np : ¬ F p
  ok : Hv H
/-- A heap of these blocks besides p. -/
def Hw (w : World) (p ox : Nat) (T : TypeId) (cs : Array Value) (F : Nat → Prop) (H : Hs) : Prop := ∃ ag og V sb O, Hm w p ox T cs F H ag og V sb O

section
variable {w : World} {p ox : Nat} {T : TypeId} {cs : Array Value} {F : Nat → Prop} {H : Hs} {ag og : Nat} {V : Value} {sb : Nat → Nat × Nat} {O : List (Option Nat)}

theorem Hm.rs (h : Hm w p ox T cs F H ag og V sb O) : Rs T ox cs w p V H.R := ⟨h.box, h.runs⟩
theorem Hm.ar (h : Hm w p ox T cs F H ag og V sb O) : Ar ox w p ag H.B := by
  refine ⟨⟨_, T, h.box.at_, h.ty.1, ?_⟩, h.bytes, ?_, h.ok.bt⟩
  · rw [Array.getElem?_setIfInBounds, if_neg (by omega)]; exact h.ca
  · have := h.ok.bl; have := h.ok.P1; omega
theorem Hm.ow (h : Hm w p ox T cs F H ag og V sb O) : Ow ox w p og O := by
  refine ⟨⟨_, T, h.box.at_, h.ty.2.1, ?_⟩, h.owners⟩
  rw [Array.getElem?_setIfInBounds, if_neg (by omega)]; exact h.co
theorem Hm.pt (h : Hm w p ox T cs F H ag og V sb O) : p < w.heap.size := lt_of_heap h.box.at_
theorem Hm.o1 (h : Hm w p ox T cs F H ag og V sb O) : O.length ≤ 1024 := by rw [h.olen]; exact h.ok.P1

/-- What leaves a heap's blocks alone leaves the heap alone. -/
theorem Hm.keep {B : Nat → Prop} {w' : World} (h : Hm w p ox T cs F H ag og V sb O) (x : Fx B w w') (hp : ¬ B p) (hf : ∀ k, F k → ¬ B k) : Hm w' p ox T cs F H ag og V sb O := by
  refine ⟨⟨x.keep h.box.at_ hp, h.box.sz, h.box.ty⟩, h.ty, h.ca, h.co, x.keep h.bytes (hf _ h.fa), ?_, x.keep h.owners (hf _ h.fo), h.olen, h.own, fun y hy => ?_, h.inj, h.fa, h.fo, h.fv, h.fs, h.np, h.ok⟩
  · refine ⟨h.runs.1, ?_⟩
    rcases h.runs.2 with q | ⟨g, cap, cur, hv, h1, h2, h3⟩
    · exact .inl q
    · exact .inr ⟨g, cap, cur, hv, h1, x.keep h2 (hf _ (h.fv g (by rw [hv]; rfl))), h3⟩
  · exact ⟨x.keep (h.spans y hy).box (hf _ (h.fs y hy).1), x.keep (h.spans y hy).row (hf _ (h.fs y hy).2)⟩
theorem Hw.keep {B : Nat → Prop} {w' : World} (h : Hw w p ox T cs F H) (x : Fx B w w') (hp : ¬ B p) (hf : ∀ k, F k → ¬ B k) : Hw w' p ox T cs F H := by
  obtain ⟨ag, og, V, sb, O, h⟩ := h
  exact ⟨ag, og, V, sb, O, h.keep x hp hf⟩
theorem Hm.keep0 {w' : World} (h : Hm w p ox T cs F H ag og V sb O) (x : Ext [] w w') : Hm w' p ox T cs F H ag og V sb O := h.keep (B := fun _ => False) (Fx.of_ext0 x) (fun h => h) (fun _ _ h => h)
theorem Hw.keep0 {w' : World} (h : Hw w p ox T cs F H) (x : Ext [] w w') : Hw w' p ox T cs F H := h.keep (B := fun _ => False) (Fx.of_ext0 x) (fun h => h) (fun _ _ h => h)
/-- The footprint may be cut to what there is, or widened. -/
theorem Hm.there (h : Hm w p ox T cs F H ag og V sb O) : Hm w p ox T cs (fun k => F k ∧ k < w.heap.size) H ag og V sb O := by
  refine ⟨h.box, h.ty, h.ca, h.co, h.bytes, h.runs, h.owners, h.olen, h.own, h.spans, h.inj, ⟨h.fa, lt_of_heap h.bytes⟩, ⟨h.fo, lt_of_heap h.owners⟩, fun g hg => ⟨h.fv g hg, h.runs.lt g hg⟩, fun x hx => ⟨⟨(h.fs x hx).1, lt_of_heap (h.spans x hx).box⟩, ⟨(h.fs x hx).2, lt_of_heap (h.spans x hx).row⟩⟩, fun q => h.np q.1, h.ok⟩
theorem Hm.foot {G : Nat → Prop} (h : Hm w p ox T cs F H ag og V sb O) (hg : ∀ k, F k → G k) (hp : ¬ G p) : Hm w p ox T cs G H ag og V sb O := by
  refine ⟨h.box, h.ty, h.ca, h.co, h.bytes, h.runs, h.owners, h.olen, h.own, h.spans, h.inj, hg _ h.fa, hg _ h.fo, fun g q => hg _ (h.fv g q), fun x hx => ⟨hg _ (h.fs x hx).1, hg _ (h.fs x hx).2⟩, hp, h.ok⟩
theorem Hw.ok (h : Hw w p ox T cs F H) : Hv H := by obtain ⟨_, _, _, _, _, h⟩ := h; exact h.ok
theorem Hw.np (h : Hw w p ox T cs F H) : ¬ F p := by obtain ⟨_, _, _, _, _, h⟩ := h; exact h.np
theorem Hw.lt (h : Hw w p ox T cs F H) : p < w.heap.size := by obtain ⟨_, _, _, _, _, h⟩ := h; exact h.pt

end

/-- How a heap has turned, and what was answered. -/
def HPost (w : World) (p ox : Nat) (T : TypeId) (cs : Array Value) (F : Nat → Prop) (H' : Hs) (r : Value) (e : Ending) (w' : World) : Prop :=
  e = .returned r ∧ ∃ F', Hw w' p ox T cs F' H' ∧ Fx (fun k => k = p ∨ F k) w w' ∧ ∀ k, F' k → F k ∨ w.heap.size ≤ k

end Go.Proofs.YtbpjmcjjambdkaaGreatDoor

/-
  The iterator over a heap's spans: what it gives a loop; no statement is proved here.
-/
namespace Go.Proofs.YtbpjmcjjambdkaaGreatDoor
open Go.RowKit Go.Shelf

attribute [local go_sem] Oper.semAt_some

/-- Blocks that a loop's round must keep. -/
def Ks (K : List Nat) (A B : World) : Prop := ∀ b ∈ K, ∀ o, A.heap[b]? = some o → B.heap[b]? = some o
theorem Ks.refl (K : List Nat) (A : World) : Ks K A A := fun _ _ _ h => h
theorem Ks.trans {K : List Nat} {A B C : World} (h : Ks K A B) (k : Ks K B C) : Ks K A C := fun b hb o ho => k b hb o (h b hb o ho)
theorem Ks.of_ext0 {K : List Nat} {A B : World} (x : Ext [] A B) : Ks K A B := fun _ _ _ ho => x.keep ho (by simp)

/-- One of a heap's spans. -/
abbrev Os (H : Hs) : Type := { x : Spn // x ∈ H.sp }
/-- The spans that begin at the first k pages. -/
def heads (H : Hs) (k : Nat) : List (Os H) := H.sp.attach.filter fun x => decide (x.val.st < k)
theorem filter_succ {α : Type} (f : α → Nat) : ∀ (L : List α) (k : Nat), L.Pairwise (fun a b => f a < f b) → (L.filter fun x => decide (f x < k + 1)) = (L.filter fun x => decide (f x < k)) ++ L.filter fun x => decide (f x = k)
  | [], _, _ => rfl
  | a :: L, k, h => by
    have hL := List.pairwise_cons.1 h
    have ih := filter_succ f L k hL.2
    rcases Nat.lt_trichotomy (f a) k with q | q | q
    · rw [List.filter_cons_of_pos (by simp; omega), List.filter_cons_of_pos (by simpa using q), List.filter_cons_of_neg (by simp; omega), ih]; rfl
    · have e1 : (L.filter fun x => decide (f x < k)) = [] := by
        rw [List.filter_eq_nil_iff]; intro b hb; have := hL.1 b hb; simp; omega
      have e2 : (L.filter fun x => decide (f x < k + 1)) = [] := by
        rw [List.filter_eq_nil_iff]; intro b hb; have := hL.1 b hb; simp; omega
      have e3 : (L.filter fun x => decide (f x = k)) = [] := by
        rw [List.filter_eq_nil_iff]; intro b hb; have := hL.1 b hb; simp; omega
      rw [List.filter_cons_of_pos (by simp; omega), List.filter_cons_of_neg (by simp; omega), List.filter_cons_of_pos (by simpa using q), e1, e2, e3]; rfl
    · rw [List.filter_cons_of_neg (by simp; omega), List.filter_cons_of_neg (by simp; omega), List.filter_cons_of_neg (by simp; omega), ih]
theorem attach_sorted {H : Hs} (h : Hv H) : H.sp.attach.Pairwise (fun a b => a.val.st < b.val.st) := by
  have h1 : H.sp.Pairwise (fun a b => a.st < b.st) := List.Pairwise.imp_of_mem (fun {a b} ha _ q => by have := (h.ok a ha).n1; omega) h.sorted
  exact (List.pairwise_map (f := Subtype.val)).1 (by rw [List.attach_map_subtype_val]; exact h1)
theorem heads_no {H : Hs} (h : Hv H) {k : Nat} (hn : ∀ x ∈ H.sp, x.st ≠ k) : heads H (k + 1) = heads H k := by
  unfold heads
  rw [filter_succ (fun x : Os H => x.val.st) _ k (attach_sorted h)]
  have : (H.sp.attach.filter fun x => decide (x.val.st = k)) = [] := by
    rw [List.filter_eq_nil_iff]; intro b _; simpa using hn b.val b.property
  rw [this, List.append_nil]
theorem filter_one {α : Type} (f : α → Nat) (k : Nat) (x : α) : ∀ (L : List α), L.Pairwise (fun a b => f a < f b) → x ∈ L → f x = k → (L.filter fun x => decide (f x = k)) = [x]
  | [], _, hx, _ => by cases hx
  | a :: L, h, hx, hk => by
    have hL := List.pairwise_cons.1 h
    rcases List.mem_cons.1 hx with rfl | hx
    · rw [List.filter_cons_of_pos (by simpa using hk)]
      congr 1
      rw [List.filter_eq_nil_iff]; intro b hb; have := hL.1 b hb; simp; omega
    · have := hL.1 x hx
      rw [List.filter_cons_of_neg (by simp; omega)]
      exact filter_one f k x L hL.2 hx hk
theorem heads_yes {H : Hs} (h : Hv H) {k : Nat} {x : Spn} (hx : x ∈ H.sp) (hk : x.st = k) : heads H (k + 1) = heads H k ++ [⟨x, hx⟩] := by
  unfold heads
  rw [filter_succ (fun x : Os H => x.val.st) _ k (attach_sorted h), filter_one (fun x : Os H => x.val.st) k ⟨x, hx⟩ _ (attach_sorted h) (List.mem_attach _ _) hk]
theorem heads_all {H : Hs} (h : Hv H) : heads H H.P = H.sp.attach := by
  unfold heads
  rw [List.filter_eq_self]
  intro x _
  have := h.le x.property
  have := (h.ok x.val x.property).n1
  simp; omega
theorem heads_pre {H : Hs} (h : Hv H) {i j : Nat} (hij : i ≤ j) : heads H i <+: heads H j := by
  induction j with
  | zero =>
    have : i = 0 := by omega
    rw [this]; exact List.prefix_rfl
  | succ j ih =>
    by_cases e : i = j + 1
    · rw [e]; exact List.prefix_rfl
    · refine (ih (by omega)).trans ?_
      unfold heads
      rw [filter_succ (fun x : Os H => x.val.st) _ j (attach_sorted h)]
      exact List.prefix_append _ _

/-- The blocks that the iterator reads. -/
def Kb (Bn p og : Nat) (H : Hs) (sb : Nat → Nat × Nat) : List Nat := Bn :: p :: og :: H.sp.map fun x => (sb x.st).1
theorem mem_kb {Bn p og : Nat} {H : Hs} {sb : Nat → Nat × Nat} {x : Spn} (hx : x ∈ H.sp) : (sb x.st).1 ∈ Kb Bn p og H sb := by
  simp only [Kb, List.mem_cons, List.mem_map]
  exact .inr (.inr (.inr ⟨x, hx, rfl⟩))

structure It (ox : Nat) (w : World) (Bn p og : Nat) (H : Hs) (sb : Nat → Nat × Nat) (O : List (Option Nat)) : Prop where
  box : Boxed w Bn 147 (.pointer (some ⟨p, ox, none⟩))
  ow : Ow ox w p og O
  olen : O.length = H.P
  own : ∀ i, i < H.P → O.getD i none = (spanAt H.sp i).map fun x => (sb x.st).1
  sts : ∀ x ∈ H.sp, ∃ cs T, w.heap[(sb x.st).1]? = some (.cells cs T (0, 0)) ∧ cs[0]? = some (.int .i64 (x.st : Nat))
  ok : Hv H
theorem It.keepK {ox : Nat} {A B : World} {Bn p og : Nat} {H : Hs} {sb : Nat → Nat × Nat} {O : List (Option Nat)} (k : It ox A Bn p og H sb O) (x : Ks (Kb Bn p og H sb) A B) : It ox B Bn p og H sb O := by
  obtain ⟨cs, T, hb, ht, hc⟩ := k.ow.box
  refine ⟨x Bn (by simp [Kb]) _ k.box, ⟨⟨cs, T, x p (by simp [Kb]) _ hb, ht, hc⟩, x og (by simp [Kb]) _ k.ow.row⟩, k.olen, k.own, fun y hy => ?_, k.ok⟩
  obtain ⟨cs, T, h1, h2⟩ := k.sts y hy
  exact ⟨cs, T, x _ (mem_kb hy) _ h1, h2⟩
theorem It.start {ox : Nat} {w : World} {Bn p og : Nat} {H : Hs} {sb : Nat → Nat × Nat} {O : List (Option Nat)} (k : It ox w Bn p og H sb O) {x : Spn} (hx : x ∈ H.sp) : w.cell? ⟨(sb x.st).1, 0, none⟩ = some (.int .i64 (x.st : Nat)) := by
  obtain ⟨cs, T, h1, h2⟩ := k.sts x hx
  rw [cell_of_row _ _ _ _ _ _ h1]; exact h2

set_option maxRecDepth 100000 in
set_option maxHeartbeats 4000000 in
theorem spans1_in {ox : Nat} (F : Fence) (n : Nat) (h77 : F.fn 151) (hro : F.round = none) (hn : 1 ≤ n) (l Bn p og : Nat) (H : Hs) (sb : Nat → Nat × Nat) (O : List (Option Nat)) (J Jx : List (Os H) → World → Prop)
    (hY : ∀ pre x W, J pre W → pre.length < H.sp.attach.length → YieldAt F (n - 1) Tryz.prog l #[.pointer (some ⟨(sb x.val.st).1, 0, none⟩)] W fun e W' =>
      (e = .returned (.bool true) ∧ J (pre ++ [x]) W' ∧ Ks (Kb Bn p og H sb) W W') ∨ (e = .returned (.bool false) ∧ Jx (pre ++ [x]) W'))
    (W : World) (hI : It ox W Bn p og H sb O) (h0 : J [] W) :
    CallsIn F n Tryz.prog 151 #[.func (.yield l) #[] #[], .pointer (some ⟨Bn, 0, none⟩)] W fun e W' => (∃ v, e = .returned v) ∧
      ((∃ ys, ys = H.sp.attach ∧ J ys W') ∨ (∃ pre, pre <+: H.sp.attach ∧ Jx pre W')) := by
  have hc := hI.box.cell
  have hoc := hI.ow.cell
  have HI := hid hI
  have HL := hid hI.ow.row
  have hv := hI.ok
  have hlen := hv.P1
  have hle := hI.olen
  clear hI
  rw [← heads_all hv] at hY ⊢
  refine callsIn_of_wp Tryz.func151 rfl h77 ?_ hro
  simp only [Tryz.ntmps151, List.size_toArray, List.length_cons, List.length_nil, Nat.reduceAdd, Nat.reduceSub, Array.replicate_succ, Array.replicate_zero, List.push_toArray, List.append_toArray, List.nil_append, List.cons_append]
  rw [hle] at hoc
  have HLE := hid hle
  clear hle
  have HV := hid hv
  clear hv
  generalize hlP : H.P = len at *
  have HLP := hid hlP
  clear hlP
  gi_wp2
  gi_loopw [12] (fun q wr => ∃ k : Nat, q = .int .i64 k ∧ k ≤ len ∧ It ox wr Bn p og H sb O ∧ J (heads H k) wr) (fun q _ => (len - (intOf q)).toNat)
  case atStart => exact ⟨0, rfl, Nat.zero_le _, HI.out, by
    have : heads H 0 = [] := by unfold heads; rw [List.filter_eq_nil_iff]; intro x _; simp
    rw [this]; exact h0⟩
  case round =>
    obtain ⟨k, rfl, hk, hIk, hJk⟩ := hrel
    have HIk := hid hIk
    have HJk := hid hJk
    by_cases hlt : k < len
    · have hat := hIk.ow.at_ (i := k) (by rw [HLE.out]; exact hlt)
      rw [hIk.own k (by rw [HLP.out]; exact hlt)] at hat
      have hlti : (k : Int) < len := by omega
      have hst := fun x (hx : x ∈ H.sp) => hIk.start hx
      clear hIk hJk
      cases hO : spanAt H.sp k with
      | none =>
        have hh : heads H (k + 1) = heads H k := heads_no HV.out (fun x hx e => by
          have := HV.out.spanAt hx (i := k) (by omega) (by have := (HV.out.ok x hx).n1; omega)
          rw [hO] at this; cases this)
        have HH := hid hh
        rw [hO] at hat
        simp only [Option.map_none] at hat
        clear hst hO hh
        gi_wp2
        refine ⟨fun f hf => (by cases hf), ?_⟩
        gi_wp2
        go_roundw
        case rel => exact ⟨k + 1, by go_num, by omega, HIk.out, by rw [HH.out]; exact HJk.out⟩
        case measure => simp [intOf]; omega
      | some x =>
        obtain ⟨hx, hx1, hx2⟩ := spanAt_some hO
        have hs0 := hst x hx
        rw [hO] at hat
        simp only [Option.map_some] at hat
        by_cases hsk : x.st = k
        · have hh : heads H (k + 1) = heads H k ++ [⟨x, hx⟩] := heads_yes HV.out hx hsk
          have hpr := heads_pre HV.out (i := k + 1) (j := len) (by omega)
          have hll : (heads H k).length < (heads H len).length := by
            have := hpr.length_le
            rw [hh, List.length_append] at this
            simp at this
            omega
          obtain ⟨fn, tmps, assign, body, hy, hR⟩ := hY (heads H k) ⟨x, hx⟩ _ HJk.out hll
          have HH := hid hh
          have HPr := hid hpr
          skip
          generalize (sb x.st).1 = s at *
          rw [hsk] at hs0
          clear hst hh hpr hll hx1 hx2 hsk
          gi_wp2
          refine hR.mono ?_
          rintro e W3 (⟨rfl, hJ3, hk3⟩ | ⟨rfl, hJx3⟩)
          · have HI3 := hid (HIk.out.keepK hk3)
            gi_wp2
            go_roundw
            case rel => exact ⟨k + 1, by go_num, by omega, HI3.out, by rw [HH.out]; exact hJ3⟩
            case measure => simp [intOf]; omega
          · gi_wp2
            refine bodyPost_ret (results_none rfl _ _ _) rfl ?_
            exact ⟨⟨_, rfl⟩, .inr ⟨_, by rw [← HH.out]; exact HPr.out, hJx3⟩⟩
        · have hh : heads H (k + 1) = heads H k := heads_no HV.out (fun y hy e => by
            have := HV.out.spanAt hy (i := k) (by omega) (by have := (HV.out.ok y hy).n1; omega)
            rw [hO] at this; cases this; exact hsk e)
          have HH := hid hh
          have hskb : ((x.st : Int) == (k : Int)) = false := by simp; omega
          have hski : ¬ ((x.st : Int) = k) := by omega
          generalize (sb x.st).1 = s at *
          generalize x.st = xs at *
          clear hst hO hh hx1 hx2
          gi_wp2
          refine ⟨fun f hf => (by cases hf), ?_⟩
          gi_wp2
          go_roundw
          case rel => exact ⟨k + 1, by go_num, by omega, HIk.out, by rw [HH.out]; exact HJk.out⟩
          case measure => simp [intOf]; omega
    · obtain rfl : k = len := by omega
      clear hIk hJk
      gi_wp2
      go_end0
      exact ⟨⟨_, rfl⟩, .inl ⟨_, rfl, HJk.out⟩⟩

/-- The iterator's value. -/
def sitv (Bn : Nat) : Value := .func (.func 151) #[] #[.pointer (some ⟨Bn, 0, none⟩)]
theorem spans_any (p : Option Addr) (w : World) : Calls Tryz.prog 109 #[.pointer p] w fun e w' => e = .returned (sitv w.heap.size) ∧ w' = w.alloc (.cells #[.pointer p] 147) := by
  go_enter Tryz.func109, Tryz.ntmps109
  go_wp2
  go_ret
  exact ⟨rfl, rfl⟩
theorem It.keep0 {ox : Nat} {A B : World} {Bn p og : Nat} {H : Hs} {sb : Nat → Nat × Nat} {O : List (Option Nat)} (k : It ox A Bn p og H sb O) (x : Ext [] A B) : It ox B Bn p og H sb O := k.keepK (Ks.of_ext0 x)
/-- The iterator's contract. -/
theorem spans_stops {ox : Nat} (F : Fence) (n : Nat) (h77 : F.fn 151) (hro : F.round = none) (hn : 1 ≤ n) (Bn p og : Nat) (H : Hs) (sb : Nat → Nat × Nat) (O : List (Option Nat)) (w : World) (hI : It ox w Bn p og H sb O) :
    SeqStopsK F n Tryz.prog 151 #[.pointer (some ⟨Bn, 0, none⟩)] (fun x : Os H => #[.pointer (some ⟨(sb x.val.st).1, 0, none⟩)]) (Ks (Kb Bn p og H sb)) (fun ys => ys = H.sp.attach) (fun pre => pre <+: H.sp.attach) H.sp.attach.length w := fun l J Jx W hW _ _ hY h0 =>
  spans1_in F n h77 hro hn l Bn p og H sb O J Jx hY W (hI.keep0 (below_ext hW)) h0

theorem Hm.it {w : World} {p ox : Nat} {T : TypeId} {cs : Array Value} {F : Nat → Prop} {H : Hs} {ag og : Nat} {V : Value} {sb : Nat → Nat × Nat} {O : List (Option Nat)} (h : Hm w p ox T cs F H ag og V sb O) {Bn : Nat} (hb : Boxed w Bn 147 (.pointer (some ⟨p, ox, none⟩))) : It ox w Bn p og H sb O :=
  ⟨hb, h.ow, h.olen, h.own, fun x hx => ⟨_, _, (h.spans x hx).box, rfl⟩, h.ok⟩

end Go.Proofs.YtbpjmcjjambdkaaGreatDoor

/-
  A region that draws and only reads, inside a loop's round: one walk in the text's order serves every order; no statement is proved here.
-/
namespace Go.Proofs.YtbpjmcjjambdkaaGreatDoor

section
variable {F : Fence} {n : Nat} {P : Program} {ops : Array Oper} {md : Region.Mode} {C : World → Prop}

/-- Is it a defer statement? -/
def isDefer : Op → Bool
  | .defer _ => true
  | _ => false
theorem ne_defer {o : Op} (h : isDefer o = false) : ∀ c, o ≠ .defer c := fun c e => by rw [e] at h; cases h

theorem quietR_op {o : Oper} {a : Act} {K : Act → Prop} {K' : Act → World → Prop} {Q' : Exit → Act → World → Prop} {w : World} (hd : isDefer o.op = false) (hw : C w) (h : ∀ a w', C w' → K a → K' a w')
    (ha : o.askedIn F P a C) (hh : o.quietIn F n P a C K) : o.wpIn F n P a w K' Q' := by
  obtain ⟨v, h1, h2⟩ := hh
  have h3 := h1 w hw
  unfold Oper.quietAtIn at h3
  unfold Oper.wpIn
  refine ⟨ha w hw, ?_⟩
  rw [Oper.semAt_eq _ _ _ (ne_defer hd)]
  generalize (execOp a.eval o).run P w = r at *
  cases r with
  | ok x w' =>
    cases x <;> simp only [Oper.quietUponIn] at h3 <;> simp only [Oper.uponIn]
    case value u =>
      obtain ⟨e1, e2⟩ := h3
      rw [e1, e2]
      exact h _ _ hw h2
    case skip =>
      obtain ⟨e1, e2⟩ := h3
      rw [e1, ← e2]
      exact h _ _ hw h2
    case enter f args =>
      obtain ⟨e1, hd, hc⟩ := h3
      rw [e1]
      exact ⟨hd, hc.mono fun e w'' ⟨he, hw''⟩ => by subst he; exact h _ _ hw'' h2⟩
  | halt x w' => simp only [Oper.quietUponIn] at h3

theorem quietR_opIn (hnd : ∀ (i : Nat) (o : Oper), ops[i]? = some o → isDefer o.op = false) {i : Nat} {a : Act} {K : Act → Prop} {K' : Act → World → Prop} {Q' : Exit → Act → World → Prop} {w : World} (hC : C w) (h : ∀ a w', C w' → K a → K' a w')
    (hh : qOpIn F n P ops C i K a) : wpOpIn F n P ops Q' i K' a w := by
  unfold qOpIn at hh
  unfold wpOpIn
  split
  · rename_i ho; simp only [ho] at hh; exact h _ _ hC hh
  · rename_i o ho
    simp only [ho] at hh
    obtain ⟨ha, hh⟩ := hh
    split
    · rename_i hw; simp only [hw, if_true] at hh; exact quietR_op (hnd i o ho) hC h ha hh
    · rename_i hw; simp only [hw] at hh; exact ⟨ha w hC, h _ _ hC hh⟩

theorem quietR_any (hnd : ∀ (i : Nat) (o : Oper), ops[i]? = some o → isDefer o.op = false) {Q : Act → Prop} {Q' : Exit → Act → World → Prop} (hQ : ∀ a w, C w → Q a → Q' .normal a w) : ∀ (fuel : Nat) (listed : Array Bool) (a : Act) (w : World), C w →
    wpAnyQIn F n P md ops C Q fuel listed a → wpAnyIn F n P md ops Q' fuel listed a w
  | 0, _, _, _, hw, h => ⟨h.1, hQ _ _ hw h.2⟩
  | fuel + 1, _, _, _, hw, h => ⟨fun h0 => hQ _ _ hw (h.1 h0), fun i hi => quietR_opIn hnd hw (fun a' w' hw' => quietR_any hnd hQ fuel _ a' w' hw') (h.2 i hi)⟩

/-- One walk of the text's order serves every order, whatever round runs. -/
theorem wpIn_region_quietR {id : Nat} {Q : Exit → Act → World → Prop} {a : Act} {w : World} {l : List Oper} (hnd : l.all (fun o => !isDefer o.op) = true) (hm : P.follows .mixedOrders = true) (hB : Region.lexB .any l.toArray = true)
    (h : wpQuietIn F n P l.toArray (fun w' => ∃ n, w' = w.drewN n) (fun a' => ∀ w', (∃ n, w' = w.drewN n) → Q .normal a' w') l a) : (Code.region id l.toArray true).wpIn F n P Q a w := by
  simp only [Region.lexB, Bool.and_eq_true] at hB
  have hnd' : ∀ (i : Nat) (o : Oper), l.toArray[i]? = some o → isDefer o.op = false := fun i o ho => by
    have h1 : o ∈ l := by simp only [List.getElem?_toArray] at ho; exact List.mem_of_getElem? ho
    have := List.all_eq_true.1 hnd o h1
    simpa using this
  refine wpIn_region_any hm (quietR_any (C := fun w' => ∃ n, w' = w.drewN n) hnd' (Q := fun a' => ∀ w', (∃ n, w' = w.drewN n) → Q .normal a' w') (fun _ w' hw' h => h w' hw') _ _ _ _ ⟨1, rfl⟩ ?_)
  have := wpAnyQIn_lex (F := F) (n := n) (P := P) (C := fun w' => ∃ n, w' = w.drewN n) (md := .any) hB.1 l 0 (Array.replicate l.toArray.size false) a (by simp) (by simpa using hB.2) h
  simpa using this

end

end Go.Proofs.YtbpjmcjjambdkaaGreatDoor

/-
  open: the lowest span that has a free slot of a size; no statement is proved here.
-/
namespace Go.Proofs.YtbpjmcjjambdkaaGreatDoor
open Go.RowKit Go.Shelf

attribute [local go_sem] Oper.semAt_some

/-- A span with a free slot of that room. -/
def fitS (rm : Nat) (x : Spn) : Bool := decide (x.rm = rm) && decide (us x.S < x.S.length)
def OpPost (sb : Nat → Nat × Nat) (w : World) (r : Option Spn) (e : Ending) (w' : World) : Prop := e = .returned (.pointer (r.map fun x => ⟨(sb x.st).1, 0, none⟩)) ∧ Ext [] w w'
theorem ksK_b {K : List Nat} {w : World} (h1 : ∀ b ∈ K, b < w.heap.size) (W : World) (l : Nat) (o o' : Obj) (hl : w.heap.size ≤ l) (_ : W.heap[l]? = some o) (_ : o.isCells = false) (_ : o.isWalk = false) : Ks K W (W.putObj l o') :=
  fun b hb _ ho => (World.putObj_heap_other (by have := h1 b hb; omega)).trans ho
theorem ksK_t {K : List Nat} {A B C : World} (h : Ks K A B) (k : Ks K B C) : Ks K A C := h.trans k
theorem ofind_snoc {α : Type} {L : List α} {p : α → Bool} {x : α} (h : L.find? p = none) : (L ++ [x]).find? p = if p x then some x else none := by
  rw [List.find?_append, h]
  simp [List.find?_cons]
  cases p x <;> rfl
theorem ofind_prefix {α : Type} {A B : List α} {p : α → Bool} {x : α} (h : A.find? p = some x) (hp : A <+: B) : B.find? p = some x := by
  obtain ⟨t, rfl⟩ := hp
  rw [List.find?_append, h]; rfl
theorem ofind_attach {H : Hs} (p : Spn → Bool) : (H.sp.attach.find? fun x => p x.val).map Subtype.val = H.sp.find? p := by
  conv => rhs; rw [← List.attach_map_subtype_val H.sp, List.find?_map]
  rfl
theorem oload85 {w : World} {g : Nat} {v : Value} (h : Boxed w g 179 v) : (loadVar 179 ⟨g, 0, none⟩).run Tryz.prog w = .ok v w := by
  have := h.cell
  simp [go_sem, this]
theorem results_cell1 {P : Program} {fn : Func} {p : Tmp} {ty : TypeId} (h : fn.results = #[.cell p ty]) (tmps : Array Value) (w : World) (a : Addr) (v : Value)
    (hp : tmps.getD p undef = .pointer (some a)) (h1 : (loadVar ty a).run P w = .ok v w) : (results fn tmps).run P w = .ok v w := by
  have hp' : tmps[p]?.getD undef = .pointer (some a) := by simpa using hp
  simp [results, h, hp', asAddr, h1]
theorem keepsOthers_drewN (W : World) (n : Nat) : KeepsOthers W (W.drewN n) := ⟨Nat.le_refl _, fun _ _ h _ => h⟩
theorem below_drewN {z : Nat} {w W : World} (h : Below z w W) (n : Nat) : Below z w (W.drewN n) := h.trans ⟨rfl, rfl, rfl, Nat.le_refl _, fun _ _ => rfl⟩

theorem Kb_lt {w : World} {p ox : Nat} {T : TypeId} {cs : Array Value} {F : Nat → Prop} {H : Hs} {ag og : Nat} {V : Value} {sb : Nat → Nat × Nat} {O : List (Option Nat)} (h : Hm w p ox T cs F H ag og V sb O) {Bn : Nat} {n : Nat} (hb : Bn < n) (hn : w.heap.size ≤ n) : ∀ b ∈ Kb Bn p og H sb, b < n := by
  intro b hbm
  simp only [Kb, List.mem_cons, List.mem_map] at hbm
  rcases hbm with rfl | rfl | rfl | ⟨x, hx, rfl⟩
  · exact hb
  · have := h.pt; omega
  · have := lt_of_heap h.owners; omega
  · have := lt_of_heap (h.spans x hx).box; omega

set_option maxRecDepth 100000 in
set_option maxHeartbeats 4000000 in
theorem open_any {p ox : Nat} {T : TypeId} {cs : Array Value} {F : Nat → Prop} {H : Hs} {ag og : Nat} {V : Value} {sb : Nat → Nat × Nat} {O : List (Option Nat)} (room : Nat) (w : World) (hH : Hm w p ox T cs F H ag og V sb O) :
    Calls Tryz.prog 164 #[.pointer (some ⟨p, ox, none⟩), .int .i64 room] w (OpPost sb w (H.sp.find? (fitS room))) := by
  refine (callsIn_wide (n := 8)).1 ?_
  refine callsIn_of_wp_marks Tryz.func164 rfl trivial ?_ rfl
  simp only [Tryz.ntmps164, List.size_toArray, List.length_cons, List.length_nil, Nat.reduceAdd, Nat.reduceSub, Array.replicate_succ, Array.replicate_zero, List.push_toArray, List.append_toArray, List.nil_append, List.cons_append]
  have K := fun u => spans_any (some ⟨p, ox, none⟩) u
  have HO := hid hH
  clear hH
  gi_wp2_with (refine ⟨trivial, ?_⟩; gi_at_call 109; refine (callsIn_wide.2 (K _)).mono ?_; rintro e w' ⟨rfl, rfl⟩)
  clear K
  obtain ⟨z, hz⟩ : ∃ z, z = w.heap.size := ⟨_, rfl⟩
  have hE0 : Ext [] w (((w.alloc (.cells #[.int .i64 room] 3)).alloc (.cells #[.pointer none] 179)).alloc (.cells #[.pointer (some ⟨p, ox, none⟩)] 147)) := ((Ext.alloc [] _ _).trans (Ext.alloc [] _ _)).trans (Ext.alloc [] _ _)
  have bR := ((Boxed.new w 3 (.int .i64 room)).alloc (.cells #[.pointer none] 179)).alloc (.cells #[.pointer (some ⟨p, ox, none⟩)] 147)
  have bP := (Boxed.new (w.alloc (.cells #[.int .i64 room] 3)) 179 (.pointer none)).alloc (.cells #[.pointer (some ⟨p, ox, none⟩)] 147)
  have bN := Boxed.new ((w.alloc (.cells #[.int .i64 room] 3)).alloc (.cells #[.pointer none] 179)) 147 (.pointer (some ⟨p, ox, none⟩))
  simp only [World.size_alloc] at bP bN
  have hsz : (((w.alloc (.cells #[.int .i64 room] 3)).alloc (.cells #[.pointer none] 179)).alloc (.cells #[.pointer (some ⟨p, ox, none⟩)] 147)).heap.size = w.heap.size + 3 := by simp
  obtain ⟨W0, hW0⟩ : ∃ W0, ((w.alloc (.cells #[.int .i64 room] 3)).alloc (.cells #[.pointer none] 179)).alloc (.cells #[.pointer (some ⟨p, ox, none⟩)] 147) = W0 := ⟨_, rfl⟩
  rw [hW0] at bR bP bN hE0 hsz ⊢
  clear hW0
  have hIt := (HO.out.keep0 hE0).it bN
  have hKb : ∀ b ∈ Kb (w.heap.size + 1 + 1) p og H sb, b < W0.heap.size := Kb_lt HO.out (by omega) (by omega)
  have HBz := hid hE0.below
  rw [← hz] at bR bP bN hIt hKb HBz hsz ⊢
  have hzw : z ≤ w.heap.size := by omega
  have HZ := hid hz
  clear hz hE0 bN
  refine wpIn_rangeFunc_ownH rfl (by omega) (gf := 151) (lb := #[.pointer (some ⟨z + 1 + 1, 0, none⟩)]) rfl trivial (enters_of Tryz.func151 (by kernel_rfl) rfl)
    (spans_stops Fence.wide _ trivial rfl (by omega) (z + 1 + 1) p og H sb O W0 hIt) ksK_t (ksK_b hKb) (Below.refl _ _) (fun _ => rfl)
    (fun pre W => ((Boxed W z 3 (.int .i64 room) ∧ Boxed W (z + 1) 179 (.pointer none)) ∧ Below z w W) ∧ pre.find? (fun x => fitS room x.val) = none)
    (fun c pre W => ∃ x : Os H, (Boxed W (z + 1) 179 (.pointer (some ⟨(sb x.val.st).1, 0, none⟩)) ∧ Below z w W) ∧ pre.find? (fun x => fitS room x.val) = some x ∧ c = .ret)
    (OwnFrom.and (OwnFrom.and (OwnFrom.and (Own.from (boxed_own _ _ _) _) (Own.from (boxed_own _ _ _) _)) (ownFrom_below (by omega) (by omega))) (ownFrom_pure _ _))
    (fun c pre X Y row hs hg hr => by
      obtain ⟨x, ⟨h2, h3⟩, h4, h5⟩ := hs
      exact ⟨x, ⟨boxed_own (z + 1) 179 (fun _ : Unit => .pointer (some ⟨(sb x.val.st).1, 0, none⟩)) () X Y row h2 hg (fun r e => (hr r e).2), ownFrom_below (by omega) (show z ≤ W0.heap.size by omega) () X Y row h3 hg hr⟩, h4, h5⟩)
    ⟨⟨⟨bR, bP⟩, HBz.out⟩, rfl⟩
    (fun x a' _ => a' = { tmps := #[.pointer (some ⟨p, ox, none⟩), .int .i64 room, undef, .pointer (some ⟨z, 0, none⟩), .pointer (some ⟨z + 1, 0, none⟩), .pointer (some ⟨(sb x.val.st).1, 0, none⟩), .pointer (some ⟨p, ox, none⟩), sitv (z + 1 + 1), .pointer (some ⟨(sb x.val.st).1, 0, none⟩), undef, undef, undef, undef, undef, undef, undef, undef, undef, undef, undef, undef, undef, undef, undef, undef, undef, undef, undef], defers := [] })
    (fun x a' _ X Y row hs hg hr => hs)
    ?assign ?body ?done ?stop
  case assign =>
    rintro l pre x W K hI hK
    gi_wp2
    exact hK _ _ (KeepsFrom.refl _ _) (Ks.refl _ _) hI rfl
  case body =>
    rintro l pre x a' W hl ⟨r, hr⟩ ⟨⟨⟨bR1, bP1⟩, hB1⟩, hf⟩ rfl _
    have hx : Ext [] w W := by rw [HZ.out] at hB1; exact below_ext hB1
    have hs := (HO.out.spans x.val x.property).keep hx (by simp) (by simp)
    have cR := bR1.cell
    have c2 := hs.c2
    have c3 := hs.c3
    have c4 := hs.c4
    have HI := hid (And.intro (And.intro (And.intro bR1 bP1) hB1) hf)
    have hsn : Hid ((pre ++ [x]).find? (fun x => fitS room x.val) = if fitS room x.val then some x else none) := ofind_snoc hf
    clear bR1 bP1 hB1 hf hr hx hs
    have hfit : Hid (fitS room x.val = (decide (x.val.rm = room) && decide (us x.val.S < x.val.S.length))) := rfl
    have HD : Hid (∀ n, ((Boxed (W.drewN n) z 3 (.int .i64 room) ∧ Boxed (W.drewN n) (z + 1) 179 (.pointer none)) ∧ Below z w (W.drewN n)) ∧ pre.find? (fun x => fitS room x.val) = none) := fun n =>
      ⟨⟨⟨(Ext.drewN [] W n).keep HI.out.1.1.1 (by simp), (Ext.drewN [] W n).keep HI.out.1.1.2 (by simp)⟩, below_drewN HI.out.1.2 n⟩, HI.out.2⟩
    clear HI
    generalize x.val.rm = rm at *
    generalize us x.val.S = uu at *
    generalize x.val.S.length = nn at *
    generalize (sb x.val.st).2 = sg at *
    generalize hsx : (sb x.val.st).1 = sx at *
    by_cases hrm : rm = room
    · subst hrm
      by_cases hun : uu < nn
      · have hT : Hid (fitS rm x.val = true) := by show _ = _; rw [hfit.out]; simp [hun]
        have hun1 : decide ((uu : Int) < nn) = true := by simp; omega
        have hun2 : (uu : Int) < nn := by omega
        clear hfit
        gi_wp2_with fail
        refine wpIn_region_quietR (by kernel_rfl) (by kernel_rfl) (by kernel_rfl) ?_
        repeat (gi_big_quiet_step (fail))
        refine wpQuietIn_nil ?_
        rintro _ ⟨nq, rfl⟩
        have hD := HD.out nq
        have cP' := hD.1.1.2.cell
        have fP' := hD.1.1.2.frozen
        have HD2 := hid hD
        clear cR c2 c3 c4 HD hD
        gi_wp2_with fail
        refine ⟨((keepsOthers_drewN _ _).trans (KeepsOthers.setCell _ _ _)).from _, x, ⟨by rw [hsx]; exact HD2.out.1.1.2.set _, ?_⟩, by rw [hsn.out, hT.out]; rfl, rfl⟩
        exact HD2.out.1.2.setCell (p := ⟨z + 1, 0, none⟩) (Nat.le_succ _) _
      · have hT : Hid (fitS rm x.val = false) := by show _ = _; rw [hfit.out]; simp [hun]
        have hun1 : decide ((uu : Int) < nn) = false := by simp; omega
        have hun2 : ¬ (uu : Int) < nn := by omega
        clear hfit
        gi_wp2_with fail
        refine wpIn_region_quietR (by kernel_rfl) (by kernel_rfl) (by kernel_rfl) ?_
        repeat (gi_big_quiet_step (fail))
        refine wpQuietIn_nil ?_
        rintro _ ⟨nq, rfl⟩
        have HD2 := hid (HD.out nq)
        clear cR c2 c3 c4 HD
        gi_wp2_with fail
        exact ⟨(keepsOthers_drewN _ _).from _, Ks.of_ext0 (Ext.drewN [] W nq), HD2.out.1, by rw [hsn.out, hT.out]; rfl⟩
    · have hrb : ((rm : Int) == (room : Int)) = false := by simp; omega
      have hT : Hid (fitS room x.val = false) := by show _ = _; rw [hfit.out]; simp [hrm]
      clear hfit
      gi_wp2_with fail
      refine wpIn_region_quietR (by kernel_rfl) (by kernel_rfl) (by kernel_rfl) ?_
      repeat (gi_big_quiet_step (fail))
      refine wpQuietIn_nil ?_
      rintro _ ⟨nq, rfl⟩
      have HD2 := hid (HD.out nq)
      clear cR c2 c3 c4 HD
      gi_wp2_with fail
      exact ⟨(keepsOthers_drewN _ _).from _, Ks.of_ext0 (Ext.drewN [] W nq), HD2.out.1, by rw [hsn.out, hT.out]; rfl⟩
  case done =>
    rintro D zs W hD rfl ⟨⟨⟨bR1, bP1⟩, hB1⟩, hf⟩ hK
    have cP := bP1.cell
    have fP := bP1.frozen
    have HP := hid bP1
    have HF := hid hf
    have HB1 := hid hB1
    have HK := hid hK
    clear bR1 bP1 hB1 hf hK
    gi_wp2
    have hK2 := (KeepsOthers.setCell W ⟨z + 1, 0, none⟩ (.pointer none)).same _ _ HK.out rfl
    refine ⟨by simp, .inl ⟨_, _, rfl, run_takeDeferred hK2, ?_⟩⟩
    have hP := grownBy_putObj' (W.setCell ⟨z + 1, 0, none⟩ (.pointer none)) D (.deferred none)
    have hr := HP.out.set (.pointer none)
    have hq : Boxed _ _ _ _ := (hP.block (z + 1) (lt_of_heap hr) (by simp; omega)).trans hr
    refine ⟨_, results_cell1 rfl _ _ ⟨z + 1, 0, none⟩ _ rfl (oload85 hq), ?_, ?_⟩
    · have : H.sp.find? (fitS room) = none := by rw [← ofind_attach, HF.out]; rfl
      rw [this]; rfl
    · have hx : Ext [] w W := by rw [HZ.out] at HB1; exact below_ext HB1.out
      have hz2 := HZ.out
      exact ((hx.on (Ext.setCell [z + 1] W ⟨z + 1, 0, none⟩ (.pointer none) (by simp)) (by simp; omega)).on (Ext.grown (S := [D]) hP (by simp)) (by simp; omega))
  case stop =>
    rintro D c pre W hD hSp ⟨x, ⟨bP1, hB1⟩, hf, rfl⟩ hK
    have HF := hid hf
    have HB1 := hid hB1
    have HK := hid hK
    have HP := hid bP1
    clear bP1 hB1 hf hK
    gi_wp2
    refine ⟨by simp, .inl ⟨_, _, rfl, run_takeDeferred HK.out, ?_⟩⟩
    have hP := grownBy_putObj' W D (.deferred none)
    have hq : Boxed _ _ _ _ := (hP.block (z + 1) (lt_of_heap HP.out) (by simp; omega)).trans HP.out
    refine ⟨_, results_cell1 rfl _ _ ⟨z + 1, 0, none⟩ _ rfl (oload85 hq), ?_, ?_⟩
    · have : H.sp.find? (fitS room) = some x.val := by rw [← ofind_attach, ofind_prefix HF.out hSp]; rfl
      rw [this]; rfl
    · have hx : Ext [] w W := by rw [HZ.out] at HB1; exact below_ext HB1.out
      have hz2 := HZ.out
      exact hx.on (Ext.grown (S := [D]) hP (by simp)) (by simp; omega)

end Go.Proofs.YtbpjmcjjambdkaaGreatDoor
