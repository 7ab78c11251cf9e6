/-
  Base, Math, Grp, BitsM, Iter: joined by program; no statement is proved here.
-/
import Derived.Test.YtkfagfdefkaenaaDoorRows
import Derived.WalkKit
import Derived.ProofKit
import Derived.Laws.CopyOwn
import Derived.Laws.OwnMore
import Derived.Deep.QuietTactic
import Derived.BigQuiet
import Derived.Deep.WholeRow
import Derived.Deep.AppendLies
import Derived.Deep.RegionHeld3
import Derived.RangeFuncNested
import Derived.RangeFuncBound
import Derived.RangeFuncCalls
import Derived.RangeFuncLeaves
import Derived.Shelf.Abstract
import Derived.Shelf.RegionOpen
import Derived.OwnWalkIn
import Derived.TacticsInMore
import Derived.LoopNIn
import Derived.LoopIn
import Derived.Maps.AppendAt
import GoSem.Core.View
import Derived.Laws.Bits64b
import Derived.Lib.TrailingZeros
/-
  Worlds, slices of one's own, lists of numbers as they lie in memory; no statement is proved here.
-/
namespace Go.Proofs.YtkfagfdefkaenaaDoor
open Go.RowKit

/-! ### contracts met in a walk -/

/-- A callee that answers v and leaves the world as it is. -/
theorem met {P : Program} {f : FuncId} {args : Array Value} {w : World} {v : Value} {K : Ending → World → Prop} (h : Calls P f args w fun e w' => e = .returned v ∧ w' = w) (hK : K (.returned v) w) : Calls P f args w K :=
  h.mono (by rintro _ _ ⟨rfl, rfl⟩; exact hK)

theorem hid {p : Prop} (h : p) : Hid p := h

/-! ### worlds -/

/-- The world w' is as w was but for the blocks of S and for what is new. -/
structure Ext (S : List Nat) (w w' : World) : Prop where
  os : w'.os = w.os
  tape : w'.tape = w.tape
  output : w'.output = w.output
  size : w.heap.size ≤ w'.heap.size
  block : ∀ k, k < w.heap.size → k ∉ S → w'.heap[k]? = w.heap[k]?

theorem Ext.refl (S : List Nat) (w : World) : Ext S w w := ⟨rfl, rfl, rfl, Nat.le_refl _, fun _ _ _ => rfl⟩
theorem Ext.trans {S : List Nat} {a b c : World} (h : Ext S a b) (k : Ext S b c) : Ext S a c :=
  ⟨k.os.trans h.os, k.tape.trans h.tape, k.output.trans h.output, Nat.le_trans h.size k.size, fun i hi hs => (k.block i (Nat.lt_of_lt_of_le hi h.size) hs).trans (h.block i hi hs)⟩
theorem Ext.mono {S T : List Nat} {a b : World} (h : Ext S a b) (hs : ∀ x ∈ S, x ∈ T) : Ext T a b :=
  ⟨h.os, h.tape, h.output, h.size, fun i hi hk => h.block i hi (fun q => hk (hs i q))⟩
/-- Blocks that are new need not be named. -/
theorem Ext.drop {S T : List Nat} {a b : World} (h : Ext S a b) (hs : ∀ x ∈ S, x ∈ T ∨ a.heap.size ≤ x) : Ext T a b :=
  ⟨h.os, h.tape, h.output, h.size, fun i hi hk => h.block i hi (fun q => by rcases hs i q with r | r; exact hk r; omega)⟩
theorem Ext.below {a b : World} (h : Ext [] a b) : Below a.heap.size a b := ⟨h.os, h.tape, h.output, h.size, fun k hk => h.block k hk (by simp)⟩
theorem Ext.drew (S : List Nat) (w : World) : Ext S w w.drew := ⟨rfl, rfl, rfl, Nat.le_refl _, fun _ _ _ => rfl⟩
theorem Ext.drewN (S : List Nat) (w : World) (n : Nat) : Ext S w (w.drewN n) := ⟨rfl, rfl, rfl, Nat.le_refl _, fun _ _ _ => rfl⟩
theorem Ext.alloc (S : List Nat) (w : World) (o : Obj) : Ext S w (w.alloc o) := ⟨rfl, rfl, rfl, by simp, fun k hk _ => Below.heap_alloc w o k hk⟩
theorem Ext.setCell (S : List Nat) (w : World) (a : Addr) (v : Value) (h : a.block ∈ S) : Ext S w (w.setCell a v) :=
  ⟨rfl, rfl, rfl, by simp, fun k _ hs => heap_setCell_other w a k v (fun e => hs (e ▸ h))⟩
theorem Ext.setRow (S : List Nat) (w : World) (g : Nat) (cs : Array Value) (h : g ∈ S) : Ext S w (w.setRow g cs) :=
  ⟨rfl, rfl, rfl, by simp, fun k _ hs => setRow_other w g k cs (fun e => hs (e ▸ h))⟩
theorem Ext.grown {S : List Nat} {w w' : World} {row : Option Nat} (hg : w.grownBy w' row) (h : ∀ k, row = some k → k ∈ S) : Ext S w w' :=
  ⟨hg.os, hg.tape, hg.output, hg.size, fun k hk hs => hg.block k hk (fun e => hs (h k e.symm))⟩
/-- Behind a step that turned only what is new since a. -/
theorem Ext.on {S : List Nat} {a b c : World} (h : Ext [] a b) (k : Ext S b c) (hs : ∀ x ∈ S, a.heap.size ≤ x) : Ext [] a c :=
  ((h.mono (by simp)).trans k).drop (fun x hx => .inr (hs x hx))

theorem lt_of_heap {w : World} {k : Nat} {o : Obj} (h : w.heap[k]? = some o) : k < w.heap.size := (Array.getElem?_eq_some_iff.1 h).1
theorem Ext.keep {S : List Nat} {w w' : World} (h : Ext S w w') {k : Nat} {o : Obj} (hk : w.heap[k]? = some o) (hs : k ∉ S) : w'.heap[k]? = some o :=
  (h.block k (lt_of_heap hk) hs).trans hk
theorem Ext.cell {S : List Nat} {w w' : World} (h : Ext S w w') {a : Addr} {v : Value} (hk : w.cell? a = some v) (hs : a.block ∉ S) : w'.cell? a = some v := by
  rw [← hk]
  exact World.cell?_of_block (h.block a.block (block_lt_of_cell hk) hs)

/-- The answer v, and nothing that was there has turned. -/
def SayPost (w : World) (v : Value) (e : Ending) (w' : World) : Prop := e = .returned v ∧ Ext [] w w'

theorem own_keep {S : List Nat} {w w' : World} {base : Nat} {e : TypeId} {s : Nat} {v : Value} {n : Nat} {xs : List Value} (h : w.ownsRow base e s v n xs) (x : Ext S w w') (hs : ∀ b ∈ S, v.ownBlock ≠ some b) : w'.ownsRow base e s v n xs := by
  refine ⟨h.1, ?_⟩
  rcases h.2 with h | ⟨g, cap, cur, rfl, h1, h2, h3⟩
  · exact .inl h
  · exact .inr ⟨g, cap, cur, rfl, h1, x.keep h2 (fun hg => hs g hg rfl), h3⟩
theorem own_keep0 {w w' : World} {base : Nat} {e : TypeId} {s : Nat} {v : Value} {n : Nat} {xs : List Value} (h : w.ownsRow base e s v n xs) (x : Ext [] w w') : w'.ownsRow base e s v n xs := own_keep h x (by simp)
theorem own_base {w : World} {base base' : Nat} {e : TypeId} {s : Nat} {v : Value} {n : Nat} {xs : List Value} (h : w.ownsRow base e s v n xs) (hb : base' ≤ base) : w.ownsRow base' e s v n xs := by
  refine ⟨h.1, ?_⟩
  rcases h.2 with h | ⟨g, cap, cur, h0, h1, h2⟩
  · exact .inl h
  · exact .inr ⟨g, cap, cur, h0, by omega, h2⟩
theorem own_nil (w : World) (base : Nat) (e : TypeId) (s : Nat) : w.ownsRow base e s (.slice none 0 0) 0 [] := ⟨by simp, .inl ⟨rfl, rfl⟩⟩

/-- The value is a slice. -/
theorem own_slice {w : World} {base : Nat} {e : TypeId} {s : Nat} {v : Value} {n : Nat} {xs : List Value} (h : w.ownsRow base e s v n xs) : ∃ a c, v = .slice a n c ∧ n ≤ c := by
  rcases h.2 with ⟨rfl, rfl⟩ | ⟨g, cap, cur, rfl, h1, h2, h3, _⟩
  · exact ⟨none, 0, rfl, Nat.le_refl _⟩
  · exact ⟨_, _, rfl, h3⟩
theorem own_lt {w : World} {base : Nat} {e : TypeId} {s n : Nat} {v : Value} {xs : List Value} (h : w.ownsRow base e s v n xs) : ∀ g, v.ownBlock = some g → base ≤ g ∧ g < w.heap.size := by
  intro g hg
  rcases h.2 with ⟨rfl, _⟩ | ⟨g', cap, cur, rfl, h1, h2, _⟩
  · simp [Value.ownBlock] at hg
  · simp [Value.ownBlock] at hg
    subst hg
    exact ⟨h1, lt_of_heap h2⟩

theorem info_parts {P : Program} {t : TypeId} {z : Value} {s b : Nat} (h : (P.info? t).map (fun i => (i.zero, i.size, i.bytes)) = some (some z, s, b)) : ∃ i, P.info? t = some i ∧ i.zero = some z ∧ i.size = s ∧ i.bytes = b := by
  cases hq : P.info? t with
  | none => simp [hq] at h
  | some i =>
    simp [hq] at h
    exact ⟨i, rfl, h.1, h.2.1, h.2.2⟩
/-- append, met by what its run is known to be. -/
theorem wpList_append_run {P : Program} {w w' : World} {ops : Array Oper} {rest : List Oper} {o : Oper} {a : Act} {Q : Exit → Act → World → Prop} (hgd : o.guard = none) (s x : Operand) (t : TypeId)
    (ho : o.op = .call { callee := .builtin .append, args := #[s, x], argTypes := #[t, t] }) (vs vx v' : Value) (hs : a.eval s = vs) (hx : a.eval x = vx)
    (hr : (Builtin.append_ #[t, t] o.type #[vs, vx]).run P w = .ok v' w') (h : wpList P ops Q rest (a.put o.dst v') w') : wpList P ops Q (o :: rest) a w := by
  refine wpList_plain hgd fun K hK => ?_
  unfold Oper.wp execOp
  simp only [ho, resolve, invoke, builtin, Sem.run_bind, Sem.run_pure, Result.andThen_ok, List.map_toArray, List.map_cons, List.map_nil, hs, hx, hr]
  exact hK _ _ h


theorem own_ne {w : World} {base : Nat} {e e' : TypeId} {s n : Nat} {v : Value} {xs : List Value} {cs : Array Value} {k : Nat} (h : w.ownsRow base e s v n xs) (hk : w.heap[k]? = some (.cells cs e' (0, 0))) (he : e' ≠ e) : v.ownBlock ≠ some k := by
  intro hv
  rcases h.2 with ⟨rfl, _⟩ | ⟨g, cap, cur, rfl, h1, h2, _⟩
  · simp [Value.ownBlock] at hv
  · simp [Value.ownBlock] at hv
    subst hv
    rw [hk] at h2
    simp at h2
    exact he h2.2
theorem below_ext {a b : World} (h : Below a.heap.size a b) : Ext [] a b := ⟨h.os, h.tape, h.output, h.size, fun k hk _ => h.block k hk⟩
theorem ext_grown {w w' : World} {v : Value} (hg : w.grownBy w' v.ownBlock) : Ext v.ownBlock.toList w w' := Ext.grown hg (by intro q hq; simp [hq])

theorem info3 : (Tryd.prog.info? 3).map (fun i => (i.zero, i.size, i.bytes)) = some (some (.int .i64 0), 1, 8) := by kernel_rfl
theorem info4 : (Tryd.prog.info? 4).map (fun i => (i.zero, i.size, i.bytes)) = some (some (.bool false), 1, 1) := by kernel_rfl

/-! ### slices -/

/-- A slice with the elements vs, each of one cell, wherever it lies. -/
def Vs (w : World) (a : Option Addr) (vs : List Value) : Prop :=
  vs = [] ∨ ∃ b o, a = some ⟨b, o, none⟩ ∧ ∀ j, j < vs.length → w.cell? ⟨b, o + j, none⟩ = vs[j]?

theorem Vs.keep {S : List Nat} {w w' : World} {a : Option Addr} {vs : List Value} (h : Vs w a vs) (e : Ext S w w') (hs : ∀ ad, a = some ad → ad.block ∉ S) : Vs w' a vs := by
  rcases h with h | ⟨b, o, rfl, hc⟩
  · exact .inl h
  · refine .inr ⟨b, o, rfl, fun j hj => ?_⟩
    have h1 := hc j hj
    obtain ⟨v, hv⟩ : ∃ v, vs[j]? = some v := ⟨vs[j], by simp [hj]⟩
    rw [hv] at h1 ⊢
    exact e.cell h1 (hs ⟨b, o, none⟩ rfl)
theorem Vs.keep0 {w w' : World} {a : Option Addr} {vs : List Value} (h : Vs w a vs) (e : Ext [] w w') : Vs w' a vs := h.keep e (by simp)

/-- A slice of ints. -/
def Is (w : World) (a : Option Addr) (xs : List Int) : Prop := Vs w a (xs.map (Value.int .i64))
theorem Is.keep0 {w w' : World} {a : Option Addr} {xs : List Int} (h : Is w a xs) (e : Ext [] w w') : Is w' a xs := Vs.keep0 h e
theorem Is.at_ {w : World} {a : Option Addr} {xs : List Int} (h : Is w a xs) (h0 : xs ≠ []) : ∃ b o, a = some ⟨b, o, none⟩ ∧ ∀ j, j < xs.length → w.cell? ⟨b, o + j, none⟩ = some (.int .i64 (xs.getD j 0)) := by
  rcases h with h | ⟨b, o, h, hc⟩
  · simp at h; exact absurd h h0
  · refine ⟨b, o, h, fun j hj => ?_⟩
    rw [hc j (by simpa using hj)]; simp [hj]

theorem own_vs {w : World} {base : Nat} {e : TypeId} {a : Option Addr} {m n c : Nat} {xs : List Value} (h : w.ownsRow base e 1 (.slice a m c) n xs) : Vs w a xs := by
  have hl := h.1
  rcases h.2 with ⟨h1, h2⟩ | ⟨g, cap, cur, h0, h1, h2, h3, h4, h5, h6⟩
  · left
    exact List.length_eq_zero_iff.1 (by omega)
  · right
    cases h0
    refine ⟨g, 0, rfl, fun j hj => ?_⟩
    rw [Nat.zero_add, cell_of_row w g j _ _ _ h2]
    have : (cur.toList.take (m * 1))[j]? = cur[j]? := by
      rw [List.getElem?_take, if_pos (by omega)]; simp
    rw [← this, h6]
theorem run_append_none {P : Program} (w : World) (base : Nat) (t ty e : TypeId) (i : TypeInfo) (size : Nat) (ht : P.underlying t = some (.slice e)) (hi : P.info? e = some i)
    (v : Value) (n : Nat) (xs : List Value) (hown : w.ownsRow base e size v n xs) (c : Nat) : (Builtin.append_ #[t, t] ty #[v, .slice none 0 c]).run P w = .ok v w := by
  rcases hown.2 with ⟨rfl, rfl⟩ | ⟨g, cap, cur, rfl, _, _, hnc, _⟩
  · simp [Builtin.append_, run_underlying ht, sizeOf, typeInfo, hi, Builtin.lenOf, Builtin.firstCells]
  · simp [Builtin.append_, run_underlying ht, sizeOf, typeInfo, hi, Builtin.lenOf, Builtin.firstCells, hnc, storeCells]

/-- append of elements of one cell each onto a slice of one's own: only what is new since w0 turns. -/
theorem app_own (w0 w : World) (hE : Ext [] w0 w) (t ty e : TypeId) (z : Value) (B : Nat) (ht : Tryd.prog.underlying t = some (.slice e)) (hi : (Tryd.prog.info? e).map (fun i => (i.zero, i.size, i.bytes)) = some (some z, 1, B)) (hzs : z.cells.size = 1) (hB : 1 ≤ B)
    (v : Value) (n : Nat) (xs : List Value) (hown : w.ownsRow w0.heap.size e 1 v n xs) (a : Option Addr) (m c : Nat) (ys : List Value) (hm : ys.length = m) (hys : Vs w a ys) (h1 : ∀ u ∈ ys, u.oneCell' = true) (hb : (n + m) * B ≤ 140737488355328) :
    ∃ v' w', (Builtin.append_ #[t, t] ty #[v, .slice a m c]).run Tryd.prog w = .ok v' w' ∧ w'.ownsRow w0.heap.size e 1 v' (n + m) (xs ++ ys) ∧ Ext [] w0 w' ∧ Ext v.ownBlock.toList w w' := by
  obtain ⟨i, hi0, hz0, hz1, hz2⟩ := info_parts hi
  have hnm : n + m ≤ 140737488355328 := Nat.le_trans (Nat.le_mul_of_pos_right _ (by omega)) hb
  have hlt := own_lt hown
  have fin : ∀ w', w.grownBy w' v.ownBlock → Ext [] w0 w' ∧ Ext v.ownBlock.toList w w' := fun w' hg => by
    have h2 := Ext.grown (S := v.ownBlock.toList) hg (by intro k hk; simp [hk])
    exact ⟨hE.on h2 (fun x hx => (hlt x (by simpa using hx)).1), h2⟩
  rcases hys with rfl | ⟨b, o, rfl, hc⟩
  · simp only [List.length_nil] at hm
    subst hm
    cases a with
    | none =>
      refine ⟨v, w, run_append_none w w0.heap.size t ty e i 1 ht hi0 v n xs hown c, by simpa using hown, hE, Ext.refl _ _⟩
    | some ad =>
      obtain ⟨v', w', hr, ho, hg, _⟩ := run_append_own (P := Tryd.prog) w w0.heap.size t ty e i z 1 B ht hi0 hz0 hz1 hz2 hzs (by decide) v n xs hown ad 0 c [] (by simp) (by simp) (by simp) (by unfold maxLen; omega) hb hE.size
      exact ⟨v', w', hr, ho, fin w' hg⟩
  · obtain ⟨v', w', hr, ho, hg, _⟩ := run_append_own (P := Tryd.prog) w w0.heap.size t ty e i z 1 B ht hi0 hz0 hz1 hz2 hzs (by decide) v n xs hown ⟨b, o, none⟩ m c ys (by omega) (fun j u hu => by
        have hj : j < ys.length := (List.getElem?_eq_some_iff.1 hu).1
        rw [Addr.add_lit, hc j hj, hu]) h1 (by unfold maxLen; omega) hb hE.size
    exact ⟨v', w', hr, ho, fin w' hg⟩

/-- A new slice of a literal's own. -/
theorem vs_new (w : World) (e : TypeId) (ys : List Value) : Vs (w.alloc (.cells ys.toArray e)) (some ⟨w.heap.size, 0, none⟩) ys := by
  right
  refine ⟨_, 0, rfl, fun j hj => ?_⟩
  rw [cell_of_row _ _ _ _ _ _ (heap_alloc_new w _)]
  simp

theorem own_at {w : World} {base : Nat} {e : TypeId} {s n : Nat} {v : Value} {xs : List Value} (h : w.ownsRow base e s v n xs) {q : Nat} (hq : v.ownBlock = some q) : ∃ cur, w.heap[q]? = some (.cells cur e (0, 0)) := by
  rcases h.2 with ⟨rfl, _⟩ | ⟨g, cap, cur, rfl, h1, h2, _⟩
  · simp [Value.ownBlock] at hq
  · simp [Value.ownBlock] at hq
    subst hq
    exact ⟨cur, h2⟩
theorem own_apart {w : World} {base base' : Nat} {e e' : TypeId} {s s' n n' : Nat} {v v' : Value} {xs xs' : List Value} (h : w.ownsRow base e s v n xs) (h' : w.ownsRow base' e' s' v' n' xs') (hne : e' ≠ e) : ∀ q ∈ v'.ownBlock.toList, v.ownBlock ≠ some q := fun q hq => by
  obtain ⟨cur, h2⟩ := own_at h' (by simpa using hq)
  exact own_ne h h2 hne

theorem Is.cell {w : World} {a : Option Addr} {xs : List Int} (h : Is w a xs) {j : Nat} (hj : j < xs.length) : ∃ b o, a = some ⟨b, o, none⟩ ∧ w.cell? ⟨b, o + j, none⟩ = some (.int .i64 (xs.getD j 0)) := by
  obtain ⟨b, o, h1, h2⟩ := h.at_ (by intro e; rw [e] at hj; simp at hj)
  exact ⟨b, o, h1, h2 j hj⟩

end Go.Proofs.YtkfagfdefkaenaaDoor

/-
  Words of eight bytes and masks of them as plain facts; no statement is proved here.
-/
namespace Go.Proofs.YtkfagfdefkaenaaDoor

/-- The byte number i of a word. -/
def byt (c i : Nat) : Nat := c / 2 ^ (8 * i) % 256
/-- The mask of the places below k that p tells. -/
def mk (p : Nat → Bool) : Nat → Nat
  | 0 => 0
  | k + 1 => mk p k + (if p k then 2 ^ k else 0)

theorem byt_lt (c i : Nat) : byt c i < 256 := Nat.mod_lt _ (by decide)
theorem byt_sr (c i : Nat) : byt c i = (c >>> (8 * i)) % 2 ^ 8 := by rw [Nat.shiftRight_eq_div_pow]; rfl
theorem byt_and (a b i : Nat) : byt (a &&& b) i = byt a i &&& byt b i := by
  rw [byt_sr, byt_sr, byt_sr, Nat.shiftRight_and_distrib, Nat.and_mod_two_pow]
theorem byt_or (a b i : Nat) : byt (a ||| b) i = byt a i ||| byt b i := by
  rw [byt_sr, byt_sr, byt_sr, Nat.shiftRight_or_distrib, Nat.or_mod_two_pow]
theorem byt_xor (a b i : Nat) : byt (a ^^^ b) i = byt a i ^^^ byt b i := by
  rw [byt_sr, byt_sr, byt_sr, Nat.shiftRight_xor_distrib, Nat.xor_mod_two_pow]
theorem at8 {Q : Nat → Prop} (h : Q 0 ∧ Q 1 ∧ Q 2 ∧ Q 3 ∧ Q 4 ∧ Q 5 ∧ Q 6 ∧ Q 7) : ∀ i, i < 8 → Q i := by
  obtain ⟨h0, h1, h2, h3, h4, h5, h6, h7⟩ := h
  intro i hi
  match i, hi with
  | 0, _ => exact h0
  | 1, _ => exact h1
  | 2, _ => exact h2
  | 3, _ => exact h3
  | 4, _ => exact h4
  | 5, _ => exact h5
  | 6, _ => exact h6
  | 7, _ => exact h7
theorem b0 (c : Nat) : byt c 0 = c % 256 := by unfold byt; simp
theorem b1 (c : Nat) : byt c 1 = c / 256 % 256 := rfl
theorem b2 (c : Nat) : byt c 2 = c / 65536 % 256 := rfl
theorem b3 (c : Nat) : byt c 3 = c / 16777216 % 256 := rfl
theorem b4 (c : Nat) : byt c 4 = c / 4294967296 % 256 := rfl
theorem b5 (c : Nat) : byt c 5 = c / 1099511627776 % 256 := rfl
theorem b6 (c : Nat) : byt c 6 = c / 281474976710656 % 256 := rfl
theorem b7 (c : Nat) : byt c 7 = c / 72057594037927936 % 256 := rfl
/-- Words of the same bytes are the same. -/
theorem byt_ext {x y : Nat} (hx : x < 18446744073709551616) (hy : y < 18446744073709551616) (h : ∀ i, i < 8 → byt x i = byt y i) : x = y := by
  have h0 := h 0 (by omega); have h1 := h 1 (by omega); have h2 := h 2 (by omega); have h3 := h 3 (by omega)
  have h4 := h 4 (by omega); have h5 := h 5 (by omega); have h6 := h 6 (by omega); have h7 := h 7 (by omega)
  rw [b0, b0] at h0; rw [b1, b1] at h1; rw [b2, b2] at h2; rw [b3, b3] at h3; rw [b4, b4] at h4; rw [b5, b5] at h5; rw [b6, b6] at h6; rw [b7, b7] at h7
  omega
theorem byt_ones' : ∀ h, h < 256 → ∀ i, i < 8 → byt (72340172838076673 * h) i = h := by decide +kernel
theorem byt_ones {h : Nat} (hh : h < 256) : ∀ i, i < 8 → byt (72340172838076673 * h) i = h := byt_ones' h hh
theorem byt_lows : ∀ i, i < 8 → byt 9187201950435737471 i = 127 := by decide +kernel
theorem byt_not {x : Nat} (hx : x < 18446744073709551616) : ∀ i, i < 8 → byt (18446744073709551615 - x) i = 255 - byt x i := by
  apply at8
  simp only [b0, b1, b2, b3, b4, b5, b6, b7]
  refine ⟨?_, ?_, ?_, ?_, ?_, ?_, ?_, ?_⟩ <;> omega
theorem byt_sum {x : Nat} (h : ∀ i, i < 8 → byt x i ≤ 127) : ∀ i, i < 8 → byt (x + 9187201950435737471) i = byt x i + 127 := by
  have h0 := h 0 (by omega); have h1 := h 1 (by omega); have h2 := h 2 (by omega); have h3 := h 3 (by omega)
  have h4 := h 4 (by omega); have h5 := h 5 (by omega); have h6 := h 6 (by omega); have h7 := h 7 (by omega)
  rw [b0] at h0; rw [b1] at h1; rw [b2] at h2; rw [b3] at h3; rw [b4] at h4; rw [b5] at h5; rw [b6] at h6; rw [b7] at h7
  apply at8
  simp only [b0, b1, b2, b3, b4, b5, b6, b7]
  refine ⟨?_, ?_, ?_, ?_, ?_, ?_, ?_, ?_⟩ <;> omega

/-! ### masks -/
theorem mk_lt (p : Nat → Bool) : ∀ k, mk p k < 2 ^ k
  | 0 => by simp [mk]
  | k + 1 => by
    have := mk_lt p k
    rw [mk, Nat.pow_succ]
    split <;> omega
theorem mk_or (p : Nat → Bool) (k : Nat) : mk p (k + 1) = mk p k ||| ((if p k then 1 else 0) <<< k) := by
  rw [Nat.or_comm, ← Nat.shiftLeft_add_eq_or_of_lt (mk_lt p k), mk]
  split <;> simp [Nat.shiftLeft_eq, Nat.add_comm]
theorem mk_bit (p : Nat → Bool) : ∀ k j, (mk p k).testBit j = (decide (j < k) && p j)
  | 0, j => by simp [mk]
  | k + 1, j => by
    rw [mk_or, Nat.testBit_or, mk_bit p k j, Nat.testBit_shiftLeft]
    rcases Nat.lt_trichotomy j k with q | q | q
    · have : ¬ k ≤ j := by omega
      have h2 : j < k + 1 := by omega
      simp [q, h2, this]
    · subst q
      cases p j <;> simp
    · have h1 : ¬ j < k := by omega
      have h2 : ¬ j < k + 1 := by omega
      have h3 : j - k ≠ 0 := by omega
      simp only [h1, h2, decide_false, Bool.false_and, Bool.false_or]
      cases p k
      · simp
      · have : Nat.testBit 1 (j - k) = false := by rw [show (1 : Nat) = 2 ^ 0 from rfl, Nat.testBit_two_pow_of_ne (by omega)]
        simp [this]
theorem mk_ext {p q : Nat → Bool} (h : ∀ i, i < 8 → p i = q i) : mk p 8 = mk q 8 := by
  apply Nat.eq_of_testBit_eq
  intro j
  rw [mk_bit, mk_bit]
  by_cases hj : j < 8
  · rw [h j hj]
  · simp [hj]
/-- The mask of highest bits. -/
def hi (c : Nat) : Nat := mk (fun i => decide (128 ≤ byt c i)) 8
/-- The word of which Match takes the highest bits. -/
def mw (c h : Nat) : Nat := 18446744073709551615 - ((((c ^^^ (72340172838076673 * h)) &&& 9187201950435737471) + 9187201950435737471) ||| (c ^^^ (72340172838076673 * h)))
def mt (c h : Nat) : Nat := mk (fun i => decide (byt c i = h)) 8
def fl (c : Nat) : Nat := mk (fun i => decide (byt c i < 128)) 8

theorem low7 : ∀ b, b < 256 → b &&& 127 ≤ 127 ∧ (decide (128 ≤ 255 - (((b &&& 127) + 127) ||| b)) = decide (b = 0)) := by decide +kernel
theorem xor_lt64 {a b : Nat} (ha : a < 18446744073709551616) (hb : b < 18446744073709551616) : a ^^^ b < 18446744073709551616 := Nat.xor_lt_two_pow (n := 64) ha hb
theorem and_lt64 {a b : Nat} (hb : b < 18446744073709551616) : a &&& b < 18446744073709551616 := Nat.and_lt_two_pow (n := 64) _ hb
theorem or_lt64 {a b : Nat} (ha : a < 18446744073709551616) (hb : b < 18446744073709551616) : a ||| b < 18446744073709551616 := Nat.or_lt_two_pow (n := 64) ha hb
theorem xor_zero' {a b : Nat} : a ^^^ b = 0 ↔ a = b := by
  constructor
  · intro h
    apply Nat.eq_of_testBit_eq
    intro i
    have := congrArg (fun n => n.testBit i) h
    simp only [Nat.testBit_xor, Nat.zero_testBit] at this
    revert this
    cases a.testBit i <;> cases b.testBit i <;> simp
  · rintro rfl; exact Nat.xor_self _
theorem sum_lt (c h : Nat) : ((c ^^^ (72340172838076673 * h)) &&& 9187201950435737471) + 9187201950435737471 < 18446744073709551616 := by
  have h1 : (c ^^^ (72340172838076673 * h)) &&& 9187201950435737471 ≤ 9187201950435737471 := Nat.and_le_right
  omega
theorem hi_mw {c h : Nat} (hc : c < 18446744073709551616) (hh : h < 256) : hi (mw c h) = mt c h := by
  apply mk_ext
  intro i hi
  have ho : c ^^^ (72340172838076673 * h) < 18446744073709551616 := xor_lt64 hc (by omega)
  have hb : ∀ i, i < 8 → byt ((c ^^^ (72340172838076673 * h)) &&& 9187201950435737471) i ≤ 127 := by
    intro j hj
    rw [byt_and, byt_lows j hj]
    exact (low7 _ (byt_lt _ _)).1
  have e : byt (mw c h) i = 255 - (((byt (c ^^^ (72340172838076673 * h)) i &&& 127) + 127) ||| byt (c ^^^ (72340172838076673 * h)) i) := by
    unfold mw
    rw [byt_not (or_lt64 (sum_lt c h) ho) i hi, byt_or, byt_sum hb i hi, byt_and, byt_lows i hi]
  show decide (128 ≤ byt (mw c h) i) = decide (byt c i = h)
  rw [e, (low7 _ (byt_lt _ _)).2, byt_xor, byt_ones hh i hi]
  exact decide_eq_decide.2 xor_zero'
theorem hi_not {c : Nat} (hc : c < 18446744073709551616) : hi (18446744073709551615 - c) = fl c := by
  apply mk_ext
  intro i hi
  show decide (128 ≤ byt _ i) = decide (byt c i < 128)
  rw [byt_not hc i hi]
  have := byt_lt c i
  exact decide_eq_decide.2 (by omega)
/-- A word with another byte. -/
def st (c i b : Nat) : Nat := (c &&& (18446744073709551615 - 255 * 2 ^ (8 * i))) ||| (b * 2 ^ (8 * i))
theorem byt_mul {b : Nat} (hb : b < 256) : ∀ i, i < 8 → ∀ j, j < 8 → byt (b * 2 ^ (8 * i)) j = if j = i then b else 0 := by
  apply at8
  refine ⟨?_, ?_, ?_, ?_, ?_, ?_, ?_, ?_⟩ <;> (apply at8; simp only [b0, b1, b2, b3, b4, b5, b6, b7]; refine ⟨?_, ?_, ?_, ?_, ?_, ?_, ?_, ?_⟩ <;> simp <;> omega)
theorem mul_lt64 {b : Nat} (hb : b < 256) : ∀ i, i < 8 → b * 2 ^ (8 * i) < 18446744073709551616 := by
  apply at8
  refine ⟨?_, ?_, ?_, ?_, ?_, ?_, ?_, ?_⟩ <;> simp <;> omega
theorem and255 : ∀ b, b < 256 → b &&& 255 = b ∧ b &&& 0 = 0 := by decide +kernel
theorem byt_st {c b : Nat} (hb : b < 256) {i : Nat} (hi : i < 8) {j : Nat} (hj : j < 8) : byt (st c i b) j = if j = i then b else byt c j := by
  unfold st
  rw [byt_or, byt_and, byt_not (mul_lt64 (b := 255) (by omega) i hi) j hj, byt_mul (b := 255) (by omega) i hi j hj, byt_mul hb i hi j hj]
  by_cases q : j = i
  · simp [q]
  · simp only [q, if_false]
    rw [show 255 - 0 = 255 from rfl, (and255 _ (byt_lt _ _)).1]
    simp
theorem st_lt {c b : Nat} (hc : c < 18446744073709551616) (hb : b < 256) {i : Nat} (hi : i < 8) : st c i b < 18446744073709551616 := by
  unfold st
  exact or_lt64 (Nat.lt_of_le_of_lt Nat.and_le_left hc) (mul_lt64 hb i hi)
end Go.Proofs.YtkfagfdefkaenaaDoor

/-
  The program's calls on words of eight bytes; no statement is proved here.
-/
namespace Go.Proofs.YtkfagfdefkaenaaDoor
open Go.RowKit

/-! ### bits of words -/
theorem u64w {n : Nat} (h : n < 18446744073709551616) : IntKind.u64.wrap (n : Int) = (n : Int) := by rw [IntKind.wrap_u64]; omega
theorem toNat64 {n : Nat} (h : n < 18446744073709551616) : (BitVec.ofInt 64 (n : Int)).toNat = n := by
  rw [BitVec.ofInt_natCast, BitVec.toNat_ofNat]; exact Nat.mod_eq_of_lt (by omega)
theorem bits_andNot_u64_nat (a b : Nat) (ha : a < 18446744073709551616) (hb : b < 18446744073709551616) :
    bits .andNot .u64 (a : Int) (b : Int) = ((a &&& (18446744073709551615 - b) : Nat) : Int) := by
  show IntKind.u64.wrap ((BitVec.ofInt 64 (a : Int) &&& ~~~ BitVec.ofInt 64 (b : Int)).toNat : Int) = _
  rw [BitVec.toNat_and, BitVec.toNat_not, toNat64 ha, toNat64 hb]
  exact u64w (and_lt64 (by omega))
theorem bits_not_u64_nat (x : Nat) (hx : x < 18446744073709551616) : bits .xor .u64 IntKind.u64.max (x : Int) = ((18446744073709551615 - x : Nat) : Int) := by
  show IntKind.u64.wrap ((BitVec.ofInt 64 18446744073709551615 ^^^ BitVec.ofInt 64 (x : Int)).toNat : Int) = _
  rw [show BitVec.ofInt 64 18446744073709551615 = BitVec.allOnes 64 from by decide, BitVec.allOnes_xor, BitVec.toNat_not, toNat64 hx]
  exact u64w (by omega)

/-! ### the calls -/
theorem place_any (i : Int) (w : World) : Calls Tryd.prog 132 #[.int .i64 i] w (fun e w' => e = .returned (.bool (decide (0 ≤ i ∧ i < 8))) ∧ w' = w) := by
  by_cases h : 0 ≤ i
  · go_enter Tryd.func132, Tryd.ntmps132
    go_wp2
    go_ret
    refine ⟨?_, rfl⟩
    simp [h]
  · go_enter Tryd.func132, Tryd.ntmps132
    go_wp2
    go_ret
    refine ⟨?_, rfl⟩
    have : decide (0 ≤ i) = false := decide_eq_false (by omega)
    rw [this]
    rfl

theorem top_bit (c k : Nat) : c / 2 ^ (8 * k + 7) % 2 = if 128 ≤ byt c k then 1 else 0 := by
  unfold byt
  rw [Nat.pow_add, ← Nat.div_div_eq_div_mul]
  generalize c / 2 ^ (8 * k) = d
  split <;> omega
theorem pow_lt9 {k : Nat} (h : k < 8) : 2 ^ k ≤ 128 := by
  have := Nat.pow_le_pow_right (n := 2) (by omega) (show k ≤ 7 by omega)
  omega
theorem high_step (c k : Nat) (hc : c < 18446744073709551616) (hk : k < 8) :
    bits BinOp.or IntKind.u64 (↑(mk (fun i => decide (128 ≤ byt c i)) k)) (IntKind.u64.wrap (bits BinOp.and IntKind.u64 ((c : Int) / 2 ^ (8 * k + 7)) 1 * 2 ^ k)) = ((mk (fun i => decide (128 ≤ byt c i)) (k + 1) : Nat) : Int) := by
  have hp := pow_lt9 hk
  have e1 : (c : Int) / 2 ^ (8 * k + 7) = ((c / 2 ^ (8 * k + 7) : Nat) : Int) := by norm_cast
  have hd : c / 2 ^ (8 * k + 7) < 18446744073709551616 := Nat.lt_of_le_of_lt (Nat.div_le_self _ _) hc
  have e2 := bits_and_u64_nat (c / 2 ^ (8 * k + 7)) 1 hd (by omega)
  have hb : (if 128 ≤ byt c k then 1 else 0) * 2 ^ k < 18446744073709551616 := by split <;> omega
  rw [e1, show (1 : Int) = ((1 : Nat) : Int) from rfl, e2, Nat.and_one_is_mod, top_bit, show (((if 128 ≤ byt c k then 1 else 0 : Nat) : Int) * 2 ^ k) = (((if 128 ≤ byt c k then 1 else 0) * 2 ^ k : Nat) : Int) by norm_cast, u64w hb]
  have hm := mk_lt (fun i => decide (128 ≤ byt c i)) k
  rw [bits_or_u64_nat _ _ (by omega) hb, mk_or, Nat.shiftLeft_eq]
  simp only [decide_eq_true_eq]
theorem highest_any (c : Nat) (hc : c < 18446744073709551616) (w : World) : Calls Tryd.prog 120 #[.int .u64 c] w (fun e w' => e = .returned (.int .u64 (hi c)) ∧ w' = w) := by
  go_enter Tryd.func120, Tryd.ntmps120
  go_wp2
  go_loop [3, 5] (fun m q => ∃ k : Nat, q = .int .i64 k ∧ k ≤ 8 ∧ m = .int .u64 (mk (fun i => decide (128 ≤ byt c i)) k)) (fun _ q => (8 - (intOf q)).toNat)
  case atStart => exact ⟨0, rfl, by omega, rfl⟩
  case round =>
    obtain ⟨k, rfl, hk, rfl⟩ := hrel
    by_cases h : k < 8
    · go_wp2
      go_round
      case rel => exact ⟨k + 1, rfl, by omega, congrArg (Value.int IntKind.u64) (high_step c k hc h)⟩
      case measure => simp [intOf]; omega
    · obtain rfl : k = 8 := by omega
      go_wp2
      go_ret
      exact ⟨rfl, rfl⟩

theorem mw_eq (c h : Nat) (hc : c < 18446744073709551616) (hh : h < 256) : bits BinOp.xor IntKind.u64 IntKind.u64.max (bits BinOp.or IntKind.u64 (IntKind.u64.wrap (bits BinOp.and IntKind.u64 (bits BinOp.xor IntKind.u64 (↑c) (72340172838076673 * ↑h)) 9187201950435737471 + 9187201950435737471)) (bits BinOp.xor IntKind.u64 (↑c) (72340172838076673 * ↑h))) = ((mw c h : Nat) : Int) := by
  have ho : c ^^^ (72340172838076673 * h) < 18446744073709551616 := xor_lt64 hc (by omega)
  have e1 := bits_xor_u64_nat c (72340172838076673 * h) hc (by omega)
  rw [show ((72340172838076673 * h : Nat) : Int) = 72340172838076673 * (h : Int) by omega] at e1
  have e2 := bits_and_u64_nat (c ^^^ (72340172838076673 * h)) 9187201950435737471 ho (by omega)
  have hs := sum_lt c h
  have e3 : IntKind.u64.wrap ((((c ^^^ (72340172838076673 * h)) &&& 9187201950435737471 : Nat) : Int) + 9187201950435737471) = ((((c ^^^ (72340172838076673 * h)) &&& 9187201950435737471) + 9187201950435737471 : Nat) : Int) := by
    rw [IntKind.wrap_u64]; omega
  rw [e1, show (9187201950435737471 : Int) = ((9187201950435737471 : Nat) : Int) from rfl, e2, show ((9187201950435737471 : Nat) : Int) = (9187201950435737471 : Int) from rfl, e3, bits_or_u64_nat _ _ hs ho, bits_not_u64_nat _ (or_lt64 hs ho)]
  rfl
theorem match_any (c h : Nat) (hc : c < 18446744073709551616) (hh : h < 256) (w : World) : Calls Tryd.prog 105 #[.int .u64 c, .int .u8 h] w (fun e w' => e = .returned (.int .u64 (mt c h)) ∧ w' = w) := by
  have e := mw_eq c h hc hh
  have K := highest_any (mw c h) (by unfold mw; omega) w
  rw [hi_mw hc hh] at K
  go_enter Tryd.func105, Tryd.ntmps105
  go_wp2_with fail
  refine met K ?_
  go_wp2
  go_ret
  exact ⟨rfl, rfl⟩
theorem full_any (c : Nat) (hc : c < 18446744073709551616) (w : World) : Calls Tryd.prog 98 #[.int .u64 c] w (fun e w' => e = .returned (.int .u64 (fl c)) ∧ w' = w) := by
  have e := bits_not_u64_nat c hc
  have K := highest_any (18446744073709551615 - c) (by omega) w
  rw [hi_not hc] at K
  go_enter Tryd.func98, Tryd.ntmps98
  go_wp2_with fail
  refine met K ?_
  go_wp2
  go_ret
  exact ⟨rfl, rfl⟩
theorem empty_any (c : Nat) (hc : c < 18446744073709551616) (w : World) : Calls Tryd.prog 107 #[.int .u64 c] w (fun e w' => e = .returned (.int .u64 (mt c 128)) ∧ w' = w) := by
  have K := match_any c 128 hc (by omega) w
  go_enter Tryd.func107, Tryd.ntmps107
  go_wp2_with (go_at_call 105; refine met K ?_)
  go_ret
  exact ⟨rfl, rfl⟩
theorem deleted_any (c : Nat) (hc : c < 18446744073709551616) (w : World) : Calls Tryd.prog 99 #[.int .u64 c] w (fun e w' => e = .returned (.int .u64 (mt c 254)) ∧ w' = w) := by
  have K := match_any c 254 hc (by omega) w
  go_enter Tryd.func99, Tryd.ntmps99
  go_wp2_with (go_at_call 105; refine met K ?_)
  go_ret
  exact ⟨rfl, rfl⟩
theorem mt_lt (c h : Nat) : mt c h < 18446744073709551616 := by
  have := mk_lt (fun i => decide (byt c i = h)) 8
  unfold mt; omega
theorem fl_lt (c : Nat) : fl c < 18446744073709551616 := by
  have := mk_lt (fun i => decide (byt c i < 128)) 8
  unfold fl; omega
theorem open_any (c : Nat) (hc : c < 18446744073709551616) (w : World) : Calls Tryd.prog 109 #[.int .u64 c] w (fun e w' => e = .returned (.int .u64 ((mt c 128 ||| mt c 254 : Nat))) ∧ w' = w) := by
  have e := bits_or_u64_nat _ _ (mt_lt c 128) (mt_lt c 254)
  have K1 := empty_any c hc w
  have K2 := deleted_any c hc w
  go_enter Tryd.func109, Tryd.ntmps109
  go_wp2_with (first | (go_at_call 107; refine met K1 ?_) | (go_at_call 99; refine met K2 ?_))
  go_ret
  exact ⟨rfl, rfl⟩
theorem new_any (w : World) : Calls Tryd.prog 64 #[] w (fun e w' => e = .returned (.int .u64 9259542123273814144) ∧ w' = w) := by
  go_enter Tryd.func64, Tryd.ntmps64
  go_wp2
  go_ret
  exact ⟨rfl, rfl⟩
theorem byt_int (c i : Nat) : (c : Int) / 2 ^ (8 * i) % 256 = ((byt c i : Nat) : Int) := by
  have e : (c : Int) / 2 ^ (8 * i) = ((c / 2 ^ (8 * i) : Nat) : Int) := by norm_cast
  unfold byt
  rw [e]
  generalize c / 2 ^ (8 * i) = d
  omega
theorem mul_int (b i : Nat) : (b : Int) * 2 ^ (8 * i) = ((b * 2 ^ (8 * i) : Nat) : Int) := by norm_cast
theorem st_int {c i b : Nat} (hc : c < 18446744073709551616) (hi : i < 8) (hb : b < 256) : bits BinOp.or IntKind.u64 (bits BinOp.andNot IntKind.u64 (↑c) (IntKind.u64.wrap (255 * 2 ^ (8 * i)))) (IntKind.u64.wrap (↑b * 2 ^ (8 * i))) = ((st c i b : Nat) : Int) := by
  have h1 := mul_lt64 (b := 255) (by omega) i hi
  have h2 := mul_lt64 hb i hi
  rw [show ((255 : Int) * 2 ^ (8 * i)) = ((255 * 2 ^ (8 * i) : Nat) : Int) from mul_int 255 i, mul_int b i, u64w h1, u64w h2, bits_andNot_u64_nat _ _ hc h1, bits_or_u64_nat _ _ (Nat.lt_of_le_of_lt Nat.and_le_left hc) h2]
  rfl
theorem get_ok (c i : Nat) (hi : i < 8) (w : World) : Calls Tryd.prog 119 #[.int .u64 c, .int .i64 i] w (fun e w' => e = .returned (.tuple #[.int .u8 (byt c i), .int .i64 0]) ∧ w' = w) := by
  have K := place_any i w
  have hd : decide ((0 : Int) ≤ i ∧ (i : Int) < 8) = true := decide_eq_true (by omega)
  rw [hd] at K
  go_enter Tryd.func119, Tryd.ntmps119
  go_wp2_with (go_at_call 132; refine met K ?_)
  go_ret2
  exact ⟨congrArg (fun x => Ending.returned (.tuple #[.int .u8 x, .int .i64 0])) (byt_int c i), rfl⟩
theorem get_bad (c : Nat) (i : Int) (hi : i < 0 ∨ 8 ≤ i) (w : World) : Calls Tryd.prog 119 #[.int .u64 c, .int .i64 i] w (fun e w' => e = .returned (.tuple #[.int .u8 0, .int .i64 2]) ∧ w' = w) := by
  have K := place_any i w
  have hd : decide ((0 : Int) ≤ i ∧ (i : Int) < 8) = false := decide_eq_false (by omega)
  rw [hd] at K
  go_enter Tryd.func119, Tryd.ntmps119
  go_wp2_with (go_at_call 132; refine met K ?_)
  go_ret2
  exact ⟨rfl, rfl⟩
theorem set_ok (c i b : Nat) (hc : c < 18446744073709551616) (hi : i < 8) (hb : b < 256) (w : World) : Calls Tryd.prog 125 #[.int .u64 c, .int .i64 i, .int .u8 b] w (fun e w' => e = .returned (.tuple #[.int .u64 (st c i b), .int .i64 0]) ∧ w' = w) := by
  have K := place_any i w
  have hd : decide ((0 : Int) ≤ i ∧ (i : Int) < 8) = true := decide_eq_true (by omega)
  rw [hd] at K
  go_enter Tryd.func125, Tryd.ntmps125
  go_wp2_with (go_at_call 132; refine met K ?_)
  go_ret2
  exact ⟨congrArg (fun x => Ending.returned (.tuple #[.int .u64 x, .int .i64 0])) (st_int hc hi hb), rfl⟩
theorem set_bad (c : Nat) (i : Int) (b : Nat) (hi : i < 0 ∨ 8 ≤ i) (w : World) : Calls Tryd.prog 125 #[.int .u64 c, .int .i64 i, .int .u8 b] w (fun e w' => e = .returned (.tuple #[.int .u64 0, .int .i64 2]) ∧ w' = w) := by
  have K := place_any i w
  have hd : decide ((0 : Int) ≤ i ∧ (i : Int) < 8) = false := decide_eq_false (by omega)
  rw [hd] at K
  go_enter Tryd.func125, Tryd.ntmps125
  go_wp2_with (go_at_call 132; refine met K ?_)
  go_ret2
  exact ⟨rfl, rfl⟩
end Go.Proofs.YtkfagfdefkaenaaDoor

/-
  The numbers of the bits of a word as plain facts; no statement is proved here.
-/
namespace Go.Proofs.YtkfagfdefkaenaaDoor

/-- The numbers of a word's bits, rising. -/
def bsF (x : Nat) : List Nat := (List.range 64).filter (fun i => x.testBit i)
/-- The lowest bit's number, and the word without it. -/
def ct (x : Nat) : Nat := Lib.ctz 64 x
def dr (x : Nat) : Nat := x &&& (x - 1)

theorem bsF_zero : bsF 0 = [] := by simp [bsF]
theorem bsF_mem {x i : Nat} : i ∈ bsF x ↔ i < 64 ∧ x.testBit i = true := by simp [bsF]
theorem bsF_len (x : Nat) : (bsF x).length ≤ 64 := by
  have := List.length_filter_le (fun i => x.testBit i) (List.range 64)
  simpa [bsF] using this
theorem dr_lt {x : Nat} (h : x ≠ 0) : dr x < x := by
  have : dr x ≤ x - 1 := Nat.and_le_right
  omega
theorem ct_spec {x : Nat} (h0 : x ≠ 0) (h : x < 18446744073709551616) : ∃ m, x = 2 ^ ct x * (2 * m + 1) ∧ ct x < 64 := by
  have := Lib.ctzFrom_spec 64 x (by omega) h
  unfold ct Lib.ctz
  rw [if_neg h0]
  exact this
theorem odd_bit (k m i : Nat) : (2 ^ k * (2 * m + 1)).testBit i = (decide (i = k) || (decide (k < i) && m.testBit (i - k - 1))) := by
  rw [Nat.mul_comm, Nat.testBit_mul_two_pow]
  rcases Nat.lt_trichotomy i k with q | q | q
  · simp [show ¬ k ≤ i by omega, show i ≠ k by omega, show ¬ k < i by omega]
  · subst q; simp
  · obtain ⟨j, rfl⟩ : ∃ j, i = k + (j + 1) := ⟨i - k - 1, by omega⟩
    rw [show k + (j + 1) - k = j + 1 by omega, Nat.testBit_succ, show (2 * m + 1) / 2 = m by omega]
    simp
theorem dr_bit {x : Nat} (h0 : x ≠ 0) (h : x < 18446744073709551616) (i : Nat) : (dr x).testBit i = (decide (ct x < i) && x.testBit i) := by
  obtain ⟨m, hx, hk⟩ := ct_spec h0 h
  obtain ⟨k, hkk⟩ : ∃ k, ct x = k := ⟨_, rfl⟩
  rw [hkk] at hx hk ⊢
  unfold dr
  subst hx
  rw [Nat.testBit_and, odd_bit]
  have e : 2 ^ k * (2 * m + 1) - 1 = 2 ^ (k + 1) * m + (2 ^ k - 1) := by
    have : 0 < 2 ^ k := Nat.pow_pos (by omega)
    rw [Nat.mul_add, Nat.pow_succ, Nat.mul_assoc]; omega
  have hl : 2 ^ k - 1 < 2 ^ (k + 1) := by have := Nat.pow_pos (n := k) (show 0 < 2 by omega); rw [Nat.pow_succ]; omega
  rw [e]
  rcases Nat.lt_trichotomy i k with q | q | q
  · simp [show i ≠ k by omega, show ¬ k < i by omega]
  · subst q
    rw [Nat.testBit_two_pow_mul_add _ hl]
    simp
  · rw [Nat.testBit_two_pow_mul_add _ hl]
    have : ¬ i < k + 1 := by omega
    simp [this, q, show i ≠ k by omega, show i - (k + 1) = i - k - 1 by omega]
theorem bsF_step {x : Nat} (h0 : x ≠ 0) (h : x < 18446744073709551616) : bsF x = ct x :: bsF (dr x) := by
  obtain ⟨m, hx, hk⟩ := ct_spec h0 h
  have hb := dr_bit h0 h
  have ht : x.testBit (ct x) = true := by
    have : x.testBit (ct x) = (2 ^ ct x * (2 * m + 1)).testBit (ct x) := by rw [← hx]
    rw [this, odd_bit]; simp
  have hl : ∀ i, i < ct x → x.testBit i = false := by
    intro i hi
    have : x.testBit i = (2 ^ ct x * (2 * m + 1)).testBit i := by rw [← hx]
    rw [this, odd_bit]
    simp [show i ≠ ct x by omega, show ¬ ct x < i by omega]
  generalize ct x = k at *
  have e : List.range 64 = List.range k ++ k :: List.range' (k + 1) (63 - k) := by
    have h1 : k :: List.range' (k + 1) (63 - k) = List.range' k (64 - k) := by
      rw [show 64 - k = (63 - k) + 1 by omega, List.range'_succ]
    rw [h1, List.range_eq_range', List.range_eq_range', show List.range' k (64 - k) = List.range' (0 + 1 * k) (64 - k) by simp, List.range'_append]
    congr 1
    omega
  unfold bsF
  rw [e, List.filter_append, List.filter_append, List.filter_cons, List.filter_cons]
  have f1 : (List.range k).filter (fun i => x.testBit i) = [] := by
    rw [List.filter_eq_nil_iff]; intro i hi; rw [hl i (by simpa using hi)]; simp
  have f2 : (List.range k).filter (fun i => (dr x).testBit i) = [] := by
    rw [List.filter_eq_nil_iff]; intro i hi; rw [hb i, hl i (by simpa using hi)]; simp
  have f3 : (List.range' (k + 1) (63 - k)).filter (fun i => (dr x).testBit i) = (List.range' (k + 1) (63 - k)).filter (fun i => x.testBit i) := by
    apply List.filter_congr
    intro i hi
    rw [hb i]
    have : k < i := by simp [List.mem_range'] at hi; omega
    simp [this]
  rw [f1, f2, f3, ht, hb k]
  simp
/-- They rise. -/
theorem bsF_rise (x : Nat) : (bsF x).Pairwise (· < ·) := List.Pairwise.filter _ List.pairwise_lt_range

/-- The word of bits with these numbers. -/
def orA : List Nat → Nat
  | [] => 0
  | i :: l => 2 ^ i ||| orA l
theorem orA_bit (l : List Nat) (j : Nat) : (orA l).testBit j = decide (j ∈ l) := by
  induction l with
  | nil => simp [orA]
  | cons i l ih =>
    rw [orA, Nat.testBit_or, ih, Nat.testBit_two_pow]
    by_cases q : i = j
    · subst q; simp
    · simp [q, Ne.symm q]
theorem orA_snoc (l : List Nat) (i : Nat) : orA (l ++ [i]) = orA l ||| 2 ^ i := by
  apply Nat.eq_of_testBit_eq
  intro j
  rw [orA_bit, Nat.testBit_or, orA_bit, Nat.testBit_two_pow]
  by_cases q : i = j
  · subst q; simp
  · simp [q, Ne.symm q]
theorem orA_lt {l : List Nat} (h : ∀ i ∈ l, i < 64) : orA l < 18446744073709551616 := by
  induction l with
  | nil => simp [orA]
  | cons i l ih =>
    rw [orA]
    exact or_lt64 (Nat.pow_lt_pow_right (a := 2) (n := 64) (by omega) (h i (by simp))) (ih fun j hj => h j (by simp [hj]))
theorem orA_bsF {x : Nat} (h : x < 18446744073709551616) : orA (bsF x) = x := by
  apply Nat.eq_of_testBit_eq
  intro j
  rw [orA_bit]
  by_cases hj : j < 64
  · cases hx : x.testBit j <;> simp [bsF_mem, hj, hx]
  · have : x.testBit j = false := Nat.testBit_lt_two_pow (Nat.lt_of_lt_of_le h (show 2 ^ 64 ≤ 2 ^ j from Nat.pow_le_pow_right (by omega) (by omega)))
    rw [this]; simp [bsF_mem, hj]
end Go.Proofs.YtkfagfdefkaenaaDoor

/-
  The number of the lowest bit, and the iterator over the bits of a mask; no statement is proved here.
-/
namespace Go.Proofs.YtkfagfdefkaenaaDoor
open Go.RowKit Go.Shelf

attribute [local go_sem] Oper.semAt_some

/-- The library's table of products. -/
def Tb (w : World) : Prop := ∀ j, j < 64 → w.cell? ⟨0, j, none⟩ = some (.int .u8 (Lib.deBruijn64tab.getD j 0))
/-- The block of the table stays. -/
def Kt (A B : World) : Prop := ∀ o, A.heap[0]? = some o → B.heap[0]? = some o
theorem Kt.refl (A : World) : Kt A A := fun _ h => h
theorem Kt.trans {A B C : World} (h : Kt A B) (k : Kt B C) : Kt A C := fun o ho => k o (h o ho)
theorem Tb.lt {w : World} (h : Tb w) : 0 < w.heap.size := block_lt_of_cell (h 0 (by omega))
theorem Kt.tb {A B : World} (h : Kt A B) (t : Tb A) : Tb B := fun j hj => by
  rw [← t j hj]
  refine World.cell?_of_block ?_
  obtain ⟨o, ho⟩ : ∃ o, A.heap[0]? = some o := ⟨_, Array.getElem?_eq_getElem t.lt⟩
  exact (h o ho).trans ho.symm
theorem Kt.of_ext {S : List Nat} {A B : World} (x : Ext S A B) (h : 0 ∉ S) : Kt A B := fun _ ho => x.keep ho h
theorem Tb.keep0 {A B : World} (t : Tb A) (x : Ext [] A B) : Tb B := (Kt.of_ext x (by simp)).tb t
theorem Kt.of_below {n : Nat} {A B : World} (h : Below n A B) (h0 : 0 < n) : Kt A B := fun _ ho => (h.block 0 h0).trans ho

theorem tz_key (x a : Nat) (hx : x < 18446744073709551616) (hx0 : x ≠ 0) (hlow : x &&& (18446744073709551616 - x) = a) :
    IntKind.u64.wrap (bits BinOp.and IntKind.u64 (x : Int) (IntKind.u64.wrap (-(x : Int))) * 285870213051353865) / 288230376151711744 = ((a * 285870213051353865 % 18446744073709551616 / 288230376151711744 : Nat) : Int) := by
  have e1 : IntKind.u64.wrap (-(x : Int)) = ((18446744073709551616 - x : Nat) : Int) := by rw [IntKind.wrap_u64]; omega
  rw [e1, bits_and_u64_nat x _ hx (by omega), hlow, IntKind.wrap_u64]
  omega

set_option maxHeartbeats 1000000 in
theorem tz_core (x k idx : Nat) (w : World) (hx0 : ((x : Int) == 0) = false)
    (key : IntKind.u64.wrap (bits BinOp.and IntKind.u64 (x : Int) (IntKind.u64.wrap (-(x : Int))) * 285870213051353865) / 288230376151711744 = (idx : Int))
    (hi : idx < 64) (hk : k < 64) (hcell : w.cell? ⟨0, idx, none⟩ = some (.int .u8 k)) :
    Calls Tryd.prog 124 #[.int .u64 x] w fun e w' => e = .returned (.int .i64 k) ∧ w' = w := by
  go_enter Tryd.func124, Tryd.ntmps124
  go_wp2_with (simp only [key])
  go_ret
  exact ⟨rfl, rfl⟩

theorem tz_any (x : Nat) (hx : x < 18446744073709551616) (hx0 : x ≠ 0) (w : World) (hT : Tb w) :
    Calls Tryd.prog 124 #[.int .u64 x] w fun e w' => e = .returned (.int .i64 (ct x)) ∧ w' = w := by
  obtain ⟨hlow, hk⟩ := Lib.lowest_bit 64 x hx0 hx
  obtain ⟨hi, htab⟩ := Lib.deBruijn64_at _ hk
  have hcell := hT _ hi
  rw [htab] at hcell
  exact tz_core x _ _ w (by simp; omega) (tz_key x _ hx hx0 hlow) hi hk hcell

theorem dr_int {x : Nat} (hx : x < 18446744073709551616) (hx0 : x ≠ 0) : bits BinOp.and IntKind.u64 (x : Int) ((x : Int) - 1) = ((dr x : Nat) : Int) := by
  have e1 : (x : Int) - 1 = ((x - 1 : Nat) : Int) := by omega
  rw [e1, bits_and_u64_nat x _ hx (by omega)]
  rfl

set_option maxRecDepth 100000 in
set_option maxHeartbeats 2000000 in
/-- The iterator's body, for every loop body that leaves the library's table. -/
theorem each1_in (n : Nat) (hn : 2 ≤ n) (l Bn : Nat) (m : Nat) (hm : m < 18446744073709551616) (J Jx : List Nat → World → Prop)
    (hY : ∀ pre x W, J pre W → pre ++ [x] <+: bsF m → YieldAt Fence.wide (n - 1) Tryd.prog l #[.int .i64 (x : Nat)] W fun e W' =>
      (e = .returned (.bool true) ∧ J (pre ++ [x]) W' ∧ Kt W W') ∨ (e = .returned (.bool false) ∧ Jx (pre ++ [x]) W'))
    (W : World) (hBn : Boxed W Bn 37 (.int .u64 m)) (hT : Tb W) (h0 : J [] W) :
    CallsIn Fence.wide n Tryd.prog 123 #[.func (.yield l) #[] #[], .pointer (some ⟨Bn, 0, none⟩)] W fun e W' => (∃ v, e = .returned v) ∧
      ((∃ ys, ys = bsF m ∧ J ys W') ∨ (∃ pre, pre <+: bsF m ∧ Jx pre W')) := by
  have hc := hBn.cell
  have hbl := hBn.lt
  refine callsIn_of_wp Tryd.func123 rfl trivial ?_ rfl
  simp only [Tryd.ntmps123, List.size_toArray, List.length_cons, List.length_nil, Nat.reduceAdd, Nat.reduceSub, Array.replicate_succ, Array.replicate_zero, List.push_toArray, List.append_toArray, List.nil_append, List.cons_append]
  have HT := hid hT
  clear hT hBn
  gi_wp2
  clear hc hbl
  gi_loopw [3] (fun q wr => ∃ (x : Nat) (pre : List Nat), q = .int .u64 x ∧ x < 18446744073709551616 ∧ pre ++ bsF x = bsF m ∧ Tb wr ∧ J pre wr) (fun q _ => (intOf q).toNat)
  case atStart => exact ⟨m, [], rfl, hm, rfl, HT.out, h0⟩
  case round =>
    clear HT h0
    obtain ⟨x, pre, rfl, hx, hpre, hT, hJ⟩ := hrel
    have HT := hid hT
    have HP := hid hpre
    clear hT hpre
    by_cases hx0 : x = 0
    · subst hx0
      gi_wp2
      go_end0
      exact ⟨⟨_, rfl⟩, .inl ⟨pre, by rw [← HP.out, bsF_zero, List.append_nil], hJ⟩⟩
    · have hstep := bsF_step hx0 hx
      have K := tz_any x hx hx0 wr HT.out
      have hd := dr_int hx hx0
      have hne : ((x : Int) != 0) = true := by simpa using hx0
      have HD := hid (dr_lt hx0)
      have HP2 : Hid ((pre ++ [ct x]) ++ bsF (dr x) = bsF m) := by show _ = _; rw [← HP.out, hstep]; simp
      have hlen : pre ++ [ct x] <+: bsF m := ⟨_, HP2.out⟩
      obtain ⟨fn, tmps, assign, body, hy, hR⟩ := hY pre (ct x) _ hJ hlen
      have hdl : dr x < 18446744073709551616 := Nat.lt_trans HD.out hx
      clear HP hstep hJ hlen
      generalize hcx : ct x = k at *
      clear hcx
      gi_wp2_with fail
      refine ⟨trivial, fun _ => by omega, ?_⟩
      refine (callsIn_wide.2 K).mono ?_
      rintro _ _ ⟨rfl, rfl⟩
      clear K
      gi_wp2
      refine ⟨fun _ => by omega, hR.mono ?_⟩
      rintro e W3 (⟨rfl, hJ3, hk3⟩ | ⟨rfl, hJx3⟩)
      · have HT3 := hid (hk3.tb HT.out)
        clear hR hy hk3
        gi_wp2
        go_roundw
        case rel => exact ⟨dr x, pre ++ [k], rfl, hdl, HP2.out, HT3.out, hJ3⟩
        case measure => simp [intOf]; exact HD.out
      · clear hR hy
        gi_wp2
        refine bodyPost_ret (results_none rfl _ _ _) rfl ?_
        exact ⟨⟨_, rfl⟩, .inr ⟨_, by rw [← HP2.out]; exact List.prefix_append _ _, hJx3⟩⟩
/-- The iterator's contract, for a mask of eight bits. -/
theorem bits_stops (n : Nat) (hn : 2 ≤ n) (Bn m : Nat) (hm : m < 256) (w : World) (hB : Boxed w Bn 37 (.int .u64 m)) (hT : Tb w) :
    SeqStopsK Fence.wide n Tryd.prog 123 #[.pointer (some ⟨Bn, 0, none⟩)] (fun x : {x : Nat // x < 8} => #[Value.int .i64 (x.val : Nat)]) Kt (fun ys => ys.map Subtype.val = bsF m) (fun pre => pre.map Subtype.val <+: bsF m) (bsF m).length w := by
  intro l J Jx W hW _ _ hY h0
  refine (each1_in n hn l Bn m (by omega) (fun p W => ∃ q, q.map Subtype.val = p ∧ J q W) (fun p W => ∃ q, q.map Subtype.val = p ∧ Jx q W) ?_ W ((below_ext hW).keep hB (by simp)) (hT.keep0 (below_ext hW)) ⟨[], rfl, h0⟩).mono ?_
  · rintro pre x W ⟨q, rfl, hj⟩ hp
    have hx : x < 8 := by
      have h1 := (bsF_mem.1 (hp.subset (List.mem_append_right _ (List.mem_singleton.2 rfl)) : x ∈ bsF m)).2
      refine Nat.lt_of_not_le fun h8 => ?_
      rw [Nat.testBit_lt_two_pow (Nat.lt_of_lt_of_le hm (show 2 ^ 8 ≤ 2 ^ x from Nat.pow_le_pow_right (by omega) h8))] at h1
      cases h1
    have hl : q.length < (bsF m).length := by
      have := hp.length_le
      simp at this
      omega
    obtain ⟨fn, tmps, assign, body, hy, hR⟩ := hY q ⟨x, hx⟩ W hj hl
    refine ⟨fn, tmps, assign, body, hy, hR.mono ?_⟩
    rintro e W' (⟨rfl, h1, h2⟩ | ⟨rfl, h1⟩)
    · exact .inl ⟨rfl, ⟨q ++ [⟨x, hx⟩], by simp, h1⟩, h2⟩
    · exact .inr ⟨rfl, ⟨q ++ [⟨x, hx⟩], by simp, h1⟩⟩
  · rintro e W' ⟨hv, (⟨ys, h1, q, h2, h3⟩ | ⟨pre, h1, q, h2, h3⟩)⟩
    · exact ⟨hv, .inl ⟨q, h2.trans h1, h3⟩⟩
    · exact ⟨hv, .inr ⟨q, by show q.map _ <+: _; rw [h2]; exact h1, h3⟩⟩
theorem ktK_b {w : World} (h1 : 0 < w.heap.size) (W : World) (l : Nat) (o o' : Obj) (hl : w.heap.size ≤ l) (_ : W.heap[l]? = some o) (_ : o.isCells = false) (_ : o.isWalk = false) : Kt W (W.putObj l o') :=
  fun _ ho => (World.putObj_heap_other (by omega)).trans ho
theorem ktK_t {A B C : World} (h : Kt A B) (k : Kt B C) : Kt A C := h.trans k

/-- The iterator's value. -/
def itv (Bn : Nat) : Value := .func (.func 123) #[] #[.pointer (some ⟨Bn, 0, none⟩)]

theorem bits_any (m : Nat) (w : World) : Calls Tryd.prog 104 #[.int .u64 m] w fun e w' => e = .returned (itv w.heap.size) ∧ w' = w.alloc (.cells #[.int .u64 m] 37) := by
  go_enter Tryd.func104, Tryd.ntmps104
  go_wp2
  go_ret
  exact ⟨rfl, rfl⟩
end Go.Proofs.YtkfagfdefkaenaaDoor
