/-
  A heap that turns while a list is gathered in a loop over an iterator; no statement is proved here.
-/
import Derived.Test.YtlajjcboahflbaaDoorWBack
import Derived.Test.YtlajjcboahflbaaDoorBkC
namespace Go.Proofs.YtlajjcboahflbaaDoor
open Go.RowKit

/-- A block of cells that is no list of objects and no variable that holds one. -/
def Typ (w : World) (b : Nat) : Prop := ∃ c t, w.heap[b]? = some (.cells c t (0, 0)) ∧ t ≠ 28 ∧ t ≠ 34
theorem Hw.typ {w : World} {p ox : Nat} {T : TypeId} {cs : Array Value} {F : Nat → Prop} {H : Hs} (h : Hw w p ox T cs F H) : Hw w p ox T cs (fun k => F k ∧ Typ w k) H := by
  obtain ⟨ag, og, V, sb, O, h⟩ := h
  refine ⟨ag, og, V, sb, O, { h with fa := ⟨h.fa, _, _, h.bytes, by decide, by decide⟩, fo := ⟨h.fo, _, _, h.owners, by decide, by decide⟩, fv := fun g hg => ⟨h.fv g hg, ?_⟩, fs := fun x hx => ⟨⟨(h.fs x hx).1, _, _, (h.spans x hx).box, by decide, by decide⟩, ⟨(h.fs x hx).2, _, _, (h.spans x hx).row, by decide, by decide⟩⟩, np := fun q => h.np q.1 }⟩
  rcases h.runs.2 with ⟨q, _⟩ | ⟨g', cap, cur, q, _, hg', _⟩
  · rw [q] at hg; simp [Value.ownBlock] at hg
  · rw [q] at hg; simp [Value.ownBlock] at hg; subst hg; exact ⟨_, _, hg', by decide, by decide⟩
theorem Hw.ptyp {w : World} {p ox : Nat} {cs : Array Value} {F : Nat → Prop} {H : Hs} (h : Hw w p ox 97 cs F H) : Typ w p := by
  obtain ⟨ag, og, V, sb, O, h⟩ := h
  exact ⟨_, _, h.box.at_, by decide, by decide⟩

/-- A heap at p, apart from the blocks of T. -/
def Hz (w : World) (T : Nat → Prop) (p : Nat) (cs : Array Value) (W : World) : Prop := ∃ F H', Hw W p 0 97 cs F H' ∧ ∀ b, F b → ¬ T b ∧ w.heap.size ≤ b ∧ Typ W b
theorem Hz.keep {w : World} {T : Nat → Prop} {p : Nat} {cs : Array Value} {W W' : World} (h : Hz w T p cs W) (hs : W.heap.size ≤ W'.heap.size) (h1 : W'.os = W.os) (h2 : W'.tape = W.tape) (h3 : W'.output = W.output) (hk : ∀ b, Typ W b → W'.heap[b]? = W.heap[b]?) : Hz w T p cs W' := by
  obtain ⟨F, H', hw, hf⟩ := h
  have hp := hw.ptyp
  refine ⟨F, H', hw.keep (B := fun k => ¬ Typ W k) ⟨h1, h2, h3, hs, fun k _ hb => hk k (Classical.not_not.1 hb)⟩ (fun q => q hp) (fun k hk q => q (hf k hk).2.2), fun b hb => ⟨(hf b hb).1, (hf b hb).2.1, ?_⟩⟩
  obtain ⟨c, t, q1, q2, q3⟩ := (hf b hb).2.2
  exact ⟨c, t, (hk b (hf b hb).2.2).trans q1, q2, q3⟩

/-- A list is gathered in the variable at ab while the heap at p turns; what T names stays as it was in W3. -/
structure Jq (w W3 : World) (T : Nat → Prop) (p : Nat) (cs : Array Value) (ab : Nat) (pre : List Ob) (W : World) : Prop where
  has : ∃ v, Boxed W ab 28 v ∧ W.ownsRow W3.heap.size 34 4 v pre.length (pre.flatMap obc) ∧ True
  hz : Hz w T p cs W
  keep : ∀ b, T b → W.heap[b]? = W3.heap[b]?
  size : W3.heap.size ≤ W.heap.size
  ext : Ext [] w W

theorem jq_own {w W3 : World} {T : Nat → Prop} {p : Nat} {cs : Array Value} {ab B : Nat} (hT : ∀ b, T b → b < W3.heap.size) (hw : w.heap.size ≤ W3.heap.size) (hB : W3.heap.size ≤ B) : OwnFrom B (Jq w W3 T p cs ab) := by
  intro pre X Y row h hg hr
  have hcell : ∀ {b : Nat} {c : Array Value} {t : TypeId} {m : Nat × Nat}, X.heap[b]? = some (.cells c t m) → Y.heap[b]? = some (.cells c t m) := fun {b c t m} hb => by
    refine (hg.block b (lt_of_heap hb) (fun e => ?_)).trans hb
    obtain ⟨_, o, ho, hc⟩ := hr b e.symm
    rw [hb] at ho; cases ho; cases hc
  have hlow : ∀ b, b < W3.heap.size → Y.heap[b]? = X.heap[b]? := fun b hb => hg.block b (Nat.lt_of_lt_of_le hb h.size) (fun e => by have := (hr b e.symm).1; omega)
  refine ⟨(Own.from (holdsRow_own W3.heap.size ab 28 34 4 (fun pre : List Ob => pre.length) (fun pre => pre.flatMap obc) (fun _ _ => True)) _) pre X Y row h.has hg hr, h.hz.keep hg.size hg.os hg.tape hg.output (fun b hb => ?_), fun b hb => (hlow b (hT b hb)).trans (h.keep b hb), Nat.le_trans h.size hg.size, ?_⟩
  · obtain ⟨c, t, q, _⟩ := hb
    rw [q]; exact hcell q
  · exact ⟨hg.os.trans h.ext.os, hg.tape.trans h.ext.tape, hg.output.trans h.ext.output, Nat.le_trans h.ext.size hg.size, fun k hk hs => (hlow k (by omega)).trans (h.ext.block k hk hs)⟩

/-- A world's first n blocks. -/
def cutW (W : World) (n : Nat) : World := { W with heap := W.heap.extract 0 n }
theorem cutW_size {W : World} {n : Nat} (h : n ≤ W.heap.size) : (cutW W n).heap.size = n := by simp [cutW]; omega
theorem cutW_ext {W : World} {n b : Nat} (h : n ≤ W.heap.size) : Ext [b] (cutW W n) W :=
  ⟨rfl, rfl, rfl, by rw [cutW_size h]; exact h, fun k hk _ => by
    rw [cutW_size h] at hk
    show W.heap[k]? = (W.heap.extract 0 n)[k]?
    simp [Array.getElem?_extract]
    omega⟩

theorem jq_step {w W3 : World} {T : Nat → Prop} {p : Nat} {cs : Array Value} {ab : Nat} {pre pre' : List Ob} {W W' : World} (hT : ∀ b, T b → b < W3.heap.size ∧ b ≠ ab) (hw : w.heap.size ≤ W3.heap.size) (hab : w.heap.size ≤ ab) (h : Jq w W3 T p cs ab pre W) (hs : CStep ab 28 34 4 obc (cutW W W3.heap.size) pre' W W') (hsz : W.heap.size ≤ W'.heap.size) : Jq w W3 T p cs ab pre' W' := by
  have hc := cutW_size h.size
  have hx := hs.cl.ext
  obtain ⟨v, h1, h2, h3⟩ := hs.cl.has
  rw [hc] at h2
  refine ⟨⟨v, h1, h2, h3⟩, h.hz.keep hsz hx.os hx.tape hx.output (fun b hb => ?_), fun b hb => ?_, by have := hx.size; omega, ?_⟩
  · obtain ⟨c, t, q, q2, q3⟩ := hb
    rw [q]; exact hs.typed b c t (0, 0) q q2 q3
  · exact (hs.same b (by rw [hc]; exact (hT b hb).1) (hT b hb).2).trans (h.keep b hb)
  · exact ⟨hx.os.trans h.ext.os, hx.tape.trans h.ext.tape, hx.output.trans h.ext.output, Nat.le_trans h.ext.size hsz, fun k hk hn => (hs.same k (by rw [hc]; omega) (by omega)).trans (h.ext.block k hk hn)⟩

/-- Alloc meanwhile. -/
theorem jq_alloc {w W3 : World} {T : Nat → Prop} {p : Nat} {cs : Array Value} {ab : Nat} {pre : List Ob} {W : World} (size tag : Int) (hG : Gl w) (hT : ∀ b, T b → b < W3.heap.size) (hpT : ¬ T p) (hpw : w.heap.size ≤ p) (h : Jq w W3 T p cs ab pre W) :
    Calls Tryd.prog 15 #[.pointer (some ⟨p, 0, none⟩), .int .i64 size, .int .i64 tag] W (fun e W' => (∃ r, e = .returned r) ∧ Jq w W3 T p cs ab pre W' ∧ (∀ B, KeepsFrom B W W') ∧ ∀ (b : Nat) (c : Array Value) (t : TypeId), (t = 28 ∨ t = 34) → W.heap[b]? = some (.cells c t (0, 0)) → W'.heap[b]? = some (.cells c t (0, 0))) := by
  obtain ⟨F, H', hw, hf⟩ := h.hz
  have hp := hw.ptyp
  refine (halloc_any size tag W (hG.keep0 h.ext) hw).mono ?_
  rintro e W' ⟨rfl, F', q1, q2, q3⟩
  have hin : ∀ k, (k = p ∨ F k) → Typ W k := fun k hk => by
    rcases hk with rfl | hk
    · exact hp
    · exact (hf k hk).2.2
  have hkp : ∀ (b : Nat) (c : Array Value) (t : TypeId), (t = 28 ∨ t = 34) → W.heap[b]? = some (.cells c t (0, 0)) → W'.heap[b]? = some (.cells c t (0, 0)) := fun b c t ht hb => by
    refine q2.keep hb (fun hk => ?_)
    obtain ⟨c', t', z1, z2, z3⟩ := hin b hk
    rw [hb] at z1
    cases z1
    rcases ht with rfl | rfl
    · exact z2 rfl
    · exact z3 rfl
  have hnT : ∀ b, T b → ¬ (b = p ∨ F b) := fun b hb hk => by
    rcases hk with rfl | hk
    · exact hpT hb
    · exact (hf b hk).1 hb
  obtain ⟨v, b1, b2, b3⟩ := h.has
  refine ⟨⟨_, rfl⟩, ⟨⟨v, hkp _ _ _ (.inl rfl) b1, ⟨b2.1, ?_⟩, b3⟩, ⟨_, _, q1.typ, fun b hb => ⟨?_, ?_, hb.2⟩⟩, fun b hb => (q2.block b (Nat.lt_of_lt_of_le (hT b hb) h.size) (hnT b hb)).trans (h.keep b hb), Nat.le_trans h.size q2.size, Fx.on h.ext q2 (fun b hb => ?_)⟩, fun B => ⟨q2.size, fun k o _ hk ho => q2.keep hk (fun hb => ?_)⟩, hkp⟩
  · rcases b2.2 with q | ⟨g, cap, cur, z0, z1, z2, z3⟩
    · exact .inl q
    · exact .inr ⟨g, cap, cur, z0, z1, hkp _ _ _ (.inr rfl) z2, z3⟩
  · intro hTb
    rcases q3 b hb.1 with z | z
    · exact (hf b z).1 hTb
    · have := hT b hTb; have := h.size; omega
  · rcases q3 b hb.1 with z | z
    · exact (hf b z).2.1
    · have := h.ext.size; omega
  · rcases hb with rfl | hb
    · exact hpw
    · exact (hf b hb).2.1
  · obtain ⟨c, t, z, _⟩ := hin k hb
    rw [hk] at z
    cases z
    cases ho
theorem hz_alloc {w : World} {T : Nat → Prop} {p : Nat} {cs : Array Value} {W : World} (size tag : Int) (hG : Gl w) (hT : ∀ b, T b → b < W.heap.size) (hpT : ¬ T p) (hpw : w.heap.size ≤ p) (h : Hz w T p cs W) (hx : Ext [] w W) :
    Calls Tryd.prog 15 #[.pointer (some ⟨p, 0, none⟩), .int .i64 size, .int .i64 tag] W (fun e W' => (∃ r, e = .returned r) ∧ Hz w T p cs W' ∧ (∀ b, T b → W'.heap[b]? = W.heap[b]?) ∧ Ext [] w W' ∧ W.heap.size ≤ W'.heap.size) := by
  obtain ⟨F, H', hw, hf⟩ := h
  refine (halloc_any size tag W (hG.keep0 hx) hw).mono ?_
  rintro e W' ⟨rfl, F', q1, q2, q3⟩
  have hnT : ∀ b, T b → ¬ (b = p ∨ F b) := fun b hb hk => by
    rcases hk with rfl | hk
    · exact hpT hb
    · exact (hf b hk).1 hb
  refine ⟨⟨_, rfl⟩, ⟨_, _, q1.typ, fun b hb => ⟨?_, ?_, hb.2⟩⟩, fun b hb => q2.block b (hT b hb) (hnT b hb), Fx.on hx q2 (fun b hb => ?_), q2.size⟩
  · intro hTb
    rcases q3 b hb.1 with z | z
    · exact (hf b z).1 hTb
    · have := hT b hTb; omega
  · rcases q3 b hb.1 with z | z
    · exact (hf b z).2.1
    · have := hx.size; omega
  · rcases hb with rfl | hb
    · exact hpw
    · exact (hf b hb).2.1
end Go.Proofs.YtlajjcboahflbaaDoor
