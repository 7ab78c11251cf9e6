/-
  CMem, CShade, CShelf, CLib: joined by program; no statement is proved here.
-/
import Derived.Test.YtjbbomokgpoilaaGreatDoorZCA
import Derived.ArgAppend
import Derived.Deep.Cut
import Derived.Shelf.Bits.Mul64
import Derived.Test.YtjbbomokgpoilaaGreatDoorProg
import Derived.Deep.RegionLaw
import Derived.Deep.LoopGhost
/-
  A graph as it lies in memory; no statement is proved here.
-/
namespace Go.Proofs.YtjbbomokgpoilaaGreatDoor.Co
open Go.RowKit

/-! ### worlds that differ in some blocks -/

/-- The world w' is as w was but for blocks of B and for what is new. -/
structure Fx (B : Nat → Prop) (w w' : World) : Prop where
  os : w'.os = w.os
  tape : w'.tape = w.tape
  output : w'.output = w.output
  size : w.heap.size ≤ w'.heap.size
  block : ∀ k, k < w.heap.size → ¬ B k → w'.heap[k]? = w.heap[k]?

theorem Fx.refl (B : Nat → Prop) (w : World) : Fx B w w := ⟨rfl, rfl, rfl, Nat.le_refl _, fun _ _ _ => rfl⟩
theorem Fx.of_ext {B : Nat → Prop} {S : List Nat} {w w' : World} (h : Ext S w w') (hs : ∀ x ∈ S, B x ∨ w.heap.size ≤ x) : Fx B w w' :=
  ⟨h.os, h.tape, h.output, h.size, fun k hk hb => h.block k hk (fun q => by rcases hs k q with r | r; exact hb r; omega)⟩
theorem Fx.of_ext0 {B : Nat → Prop} {w w' : World} (h : Ext [] w w') : Fx B w w' := Fx.of_ext h (by simp)
/-- What comes behind may turn what is new besides. -/
theorem Fx.trans {B C : Nat → Prop} {a b c : World} (h : Fx B a b) (k : Fx C b c) (hc : ∀ x, C x → B x ∨ a.heap.size ≤ x) : Fx B a c :=
  ⟨k.os.trans h.os, k.tape.trans h.tape, k.output.trans h.output, Nat.le_trans h.size k.size, fun i hi hs => (k.block i (Nat.lt_of_lt_of_le hi h.size) (fun q => by rcases hc i q with r | r; exact hs r; omega)).trans (h.block i hi hs)⟩
theorem Fx.mono {B C : Nat → Prop} {a b : World} (h : Fx B a b) (hs : ∀ x, B x → C x) : Fx C a b :=
  ⟨h.os, h.tape, h.output, h.size, fun i hi hk => h.block i hi (fun q => hk (hs i q))⟩
/-- Behind a step that turned only what is new since a. -/
theorem Fx.on {B : Nat → Prop} {a b c : World} (h : Ext [] a b) (k : Fx B b c) (hs : ∀ x, B x → a.heap.size ≤ x) : Ext [] a c :=
  ⟨k.os.trans h.os, k.tape.trans h.tape, k.output.trans h.output, Nat.le_trans h.size k.size, fun i hi _ => (k.block i (Nat.lt_of_lt_of_le hi h.size) (fun q => by have := hs i q; omega)).trans (h.block i hi (by simp))⟩
theorem Fx.keep {B : Nat → Prop} {w w' : World} (h : Fx B w w') {k : Nat} {o : Obj} (hk : w.heap[k]? = some o) (hs : ¬ B k) : w'.heap[k]? = some o :=
  (h.block k (lt_of_heap hk) hs).trans hk
theorem Fx.cell {B : Nat → Prop} {w w' : World} (h : Fx B w w') {a : Addr} {v : Value} (hk : w.cell? a = some v) (hs : ¬ B a.block) : w'.cell? a = some v := by
  rw [← hk]
  exact World.cell?_of_block (h.block a.block (block_lt_of_cell hk) hs)
theorem own_keepF {B : Nat → Prop} {w w' : World} {base : Nat} {e : TypeId} {s : Nat} {v : Value} {n : Nat} {xs : List Value} (h : w.ownsRow base e s v n xs) (x : Fx B w w') (hs : ∀ g, v.ownBlock = some g → ¬ B g) : w'.ownsRow base e s v n xs := by
  refine ⟨h.1, ?_⟩
  rcases h.2 with h | ⟨g, cap, cur, rfl, h1, h2, h3⟩
  · exact .inl h
  · exact .inr ⟨g, cap, cur, rfl, h1, x.keep h2 (hs g rfl), h3⟩
theorem is_keepF {B : Nat → Prop} {w w' : World} {a : Option Addr} {xs : List Int} (h : Is w a xs) (e : Fx B w w') (hs : ∀ ad, a = some ad → ¬ B ad.block) : Is w' a xs := by
  rcases h with h | ⟨b, o, rfl, hc⟩
  · exact .inl h
  · refine .inr ⟨b, o, rfl, fun j hj => ?_⟩
    have h1 := hc j hj
    obtain ⟨v, hv⟩ : ∃ v, (xs.map (Value.int .i64))[j]? = some v := ⟨(xs.map (Value.int .i64))[j], by simp only [List.getElem?_eq_getElem hj]⟩
    rw [hv] at h1 ⊢
    exact e.cell h1 (hs ⟨b, o, none⟩ rfl)

/-! ### slots -/

/-- The slots of a node: a row of their own. -/
def Sl (w : World) (v : Value) (s : List Int) : Prop :=
  (v = .slice none 0 0 ∧ s = []) ∨ ∃ g, v = .slice (some ⟨g, 0, none⟩) s.length s.length ∧ w.heap[g]? = some (.cells (s.map (Value.int .i64)).toArray 3 (0, 0))
theorem Sl.keep {B : Nat → Prop} {w w' : World} {v : Value} {s : List Int} (h : Sl w v s) (x : Fx B w w') (hs : ∀ g, v.ownBlock = some g → ¬ B g) : Sl w' v s := by
  rcases h with h | ⟨g, rfl, h⟩
  · exact .inl h
  · exact .inr ⟨g, rfl, x.keep h (hs g rfl)⟩
theorem Sl.is {w : World} {v : Value} {s : List Int} (h : Sl w v s) : ∃ a, v = .slice a s.length s.length ∧ Is w a s := by
  rcases h with ⟨rfl, rfl⟩ | ⟨g, rfl, h⟩
  · exact ⟨none, rfl, .inl rfl⟩
  · refine ⟨_, rfl, .inr ⟨g, 0, rfl, fun j hj => ?_⟩⟩
    rw [cell_of_row _ _ _ _ _ _ h, Nat.zero_add]; simp
theorem Sl.lt {w : World} {v : Value} {s : List Int} (h : Sl w v s) : ∀ g, v.ownBlock = some g → g < w.heap.size := by
  intro g hg
  rcases h with ⟨rfl, _⟩ | ⟨g', rfl, h⟩
  · simp [Value.ownBlock] at hg
  · simp [Value.ownBlock] at hg; subst hg; exact lt_of_heap h
theorem Sl.row {w : World} {v : Value} {s : List Int} (h : Sl w v s) : ∀ g, v.ownBlock = some g → ∃ cs, w.heap[g]? = some (.cells cs 3 (0, 0)) := by
  intro g hg
  rcases h with ⟨rfl, _⟩ | ⟨g', rfl, h⟩
  · simp [Value.ownBlock] at hg
  · simp [Value.ownBlock] at hg; subst hg; exact ⟨_, h⟩

/-! ### a line -/

/-- A list of numbers that may begin within its row. -/
def Qu (w : World) (v : Value) (l : List Nat) : Prop :=
  (v = .slice none 0 0 ∧ l = []) ∨ ∃ g o c cur, v = .slice (some ⟨g, o, none⟩) l.length c ∧ l.length ≤ c ∧ c ≤ maxLen ∧ w.heap[g]? = some (.cells cur 3 (0, 0)) ∧ o + c ≤ cur.size ∧ ∀ j, j < l.length → cur[o + j]? = some (.int .i64 (l.getD j 0 : Nat))
theorem Qu.keep {B : Nat → Prop} {w w' : World} {v : Value} {l : List Nat} (h : Qu w v l) (x : Fx B w w') (hs : ∀ g, v.ownBlock = some g → ¬ B g) : Qu w' v l := by
  rcases h with h | ⟨g, o, c, cur, rfl, h1, h2, h3, h4⟩
  · exact .inl h
  · exact .inr ⟨g, o, c, cur, rfl, h1, h2, x.keep h3 (hs g rfl), h4⟩
theorem Qu.row {w : World} {v : Value} {l : List Nat} (h : Qu w v l) : ∀ g, v.ownBlock = some g → ∃ cs, w.heap[g]? = some (.cells cs 3 (0, 0)) := by
  intro g hg
  rcases h with ⟨rfl, _⟩ | ⟨g', o, c, cur, rfl, _, _, h, _⟩
  · simp [Value.ownBlock] at hg
  · simp [Value.ownBlock] at hg; subst hg; exact ⟨_, h⟩
theorem Qu.lt {w : World} {v : Value} {l : List Nat} (h : Qu w v l) : ∀ g, v.ownBlock = some g → g < w.heap.size := fun g hg => by
  obtain ⟨cs, h⟩ := h.row g hg; exact lt_of_heap h
theorem Qu.slice {w : World} {v : Value} {l : List Nat} (h : Qu w v l) : ∃ a c, v = .slice a l.length c ∧ l.length ≤ c := by
  rcases h with ⟨rfl, rfl⟩ | ⟨g', o, c, cur, rfl, h1, _⟩
  · exact ⟨none, 0, rfl, Nat.le_refl _⟩
  · exact ⟨_, c, rfl, h1⟩
theorem Qu.head {w : World} {v : Value} {x : Nat} {t : List Nat} (h : Qu w v (x :: t)) : ∃ g o c, v = .slice (some ⟨g, o, none⟩) (t.length + 1) (c + 1) ∧ t.length ≤ c ∧ w.cell? ⟨g, o, none⟩ = some (.int .i64 x) ∧ Qu w (.slice (some ⟨g, o + 1, none⟩) t.length c) t ∧ Qu w (.slice (some ⟨g, o, none⟩) 0 0) [] := by
  rcases h with ⟨_, h⟩ | ⟨g, o, c, cur, rfl, h1, h2, h3, h4, h5⟩
  · cases h
  · simp only [List.length_cons] at h1 h5
    obtain ⟨c', rfl⟩ : ∃ c', c = c' + 1 := ⟨c - 1, by omega⟩
    refine ⟨g, o, c', rfl, by omega, ?_, .inr ⟨g, o + 1, c', cur, rfl, by omega, by omega, h3, by omega, fun j hj => ?_⟩, .inr ⟨g, o, 0, cur, rfl, by simp, by omega, h3, by omega, by simp⟩⟩
    · rw [cell_of_row _ _ _ _ _ _ h3]
      have := h5 0 (by omega)
      simpa using this
    · have := h5 (j + 1) (by omega)
      rw [show o + 1 + j = o + (j + 1) by omega, this]
      simp

/-- One number more. -/
theorem Qu.push {w : World} {v : Value} {l : List Nat} (h : Qu w v l) (W : World) (hW : Ext [] w W) (ad : Addr) (x : Nat) (hx : W.cell? ad = some (.int .i64 x)) (hl : l.length ≤ 1000000) (ty : TypeId) :
    ∃ v' W', (Builtin.append_ #[32, 32] ty #[v, .slice (some ad) 1 1]).run Tryz.prog W = .ok v' W' ∧ Qu W' v' (l ++ [x]) ∧ Ext v.ownBlock.toList W W' ∧ (v'.ownBlock = v.ownBlock ∨ ∀ g, v'.ownBlock = some g → W.heap.size ≤ g) := by
  obtain ⟨i, hi0, hz0, hz1, hz2⟩ := info_parts info3
  have hnews : ∀ (j : Nat) (u : Value), [Value.int .i64 x][j]? = some u → W.cell? (ad.add j) = some u := fun j u hu => by
    cases j with
    | zero => cases hu; rw [show ad.add 0 = ad by simp [Addr.add]]; exact hx
    | succ j => simp at hu
  rcases h with ⟨rfl, rfl⟩ | ⟨g, o, c, cur, rfl, h1, h2, h3, h4, h5⟩
  · obtain ⟨v', W', hr, ho, hg, hn⟩ := run_append_own (P := Tryz.prog) W W.heap.size 32 ty 3 i _ 1 8 Tryz.underlying32 hi0 hz0 hz1 hz2 rfl (by decide) (.slice none 0 0) 0 [] (own_nil _ _ _ _) ad 1 1 [.int .i64 x] rfl hnews (by simp [Value.oneCell']) (by unfold maxLen; omega) (by omega) (Nat.le_refl _)
    refine ⟨v', W', hr, ?_, ?_, .inr (fun g hg => (own_lt ho g hg).1)⟩
    · rcases ho.2 with ⟨_, q⟩ | ⟨g, cap, cu, rfl, _, q1, q2, q3, q4, q5⟩
      · simp at q
      · refine .inr ⟨g, 0, cap, cu, rfl, by simpa using q2, q3, q1, by omega, fun j hj => ?_⟩
        simp only [List.length_append, List.length_nil, List.length_singleton] at hj
        obtain rfl : j = 0 := by omega
        have : cu.toList.take (0 + 1) = [.int .i64 x] := by simpa using q5
        have h0 := congrArg (fun l => l[0]?) this
        simp only [List.getElem?_take] at h0
        simpa using h0
    · exact Ext.grown hg (by simp [Value.ownBlock])
  · have h3W := hW.keep h3 (by simp)
    have holds : ∀ (j : Nat) (u : Value), (l.map fun (y : Nat) => Value.int .i64 y)[j]? = some u → W.cell? ⟨g, o + j, none⟩ = some u := fun j u hu => by
      have hj : j < l.length := by have := (List.getElem?_eq_some_iff.1 hu).1; simpa using this
      rw [cell_of_row _ _ _ _ _ _ h3W, h5 j hj]
      simp [hj] at hu
      simp [hj, hu]
    by_cases hr : l.length + 1 ≤ c
    · have hrun := run_append_room_cells (P := Tryz.prog) W 32 ty 3 i Tryz.underlying32 hi0 g o l.length c ad 1 1 [.int .i64 x] (by simp [hz1]) hnews (by simp [Value.oneCell']) hr (by
        intro j hj
        simp at hj
        subst hj
        rw [cell_of_row _ _ _ _ _ _ h3W, hz1]
        rw [Array.getElem?_eq_getElem (by omega)]; rfl) (fun j _ => frozen_of_row _ _ _ _ _ h3W)
      rw [hz1] at hrun
      refine ⟨_, _, hrun, ?_, ?_, .inl rfl⟩
      · refine .inr ⟨g, o, c, cur.setIfInBounds (o + l.length) (.int .i64 x), by simp, by simpa using hr, h2, ?_, by simpa using h4, fun j hj => ?_⟩
        · simp only [World.setCells]
          rw [show o + l.length * 1 = o + l.length by omega]
          exact heap_setCell_same W g _ _ _ _ h3W
        · simp only [List.length_append, List.length_singleton] at hj
          rw [Array.getElem?_setIfInBounds]
          by_cases e : j = l.length
          · subst e; rw [if_pos rfl, if_pos (by omega)]; simp
          · rw [if_neg (by omega), h5 j (by omega)]
            simp [List.getD, List.getElem?_append_left (show j < l.length by omega)]
      · simp only [World.setCells]
        exact Ext.setCell _ _ _ _ (by simp [Value.ownBlock])
    · obtain ⟨v', W', hrun, ho, hg⟩ := run_append_arg_grows (P := Tryz.prog) W 32 ty 3 i _ 1 8 Tryz.underlying32 hi0 hz0 hz1 hz2 rfl (by decide) ⟨g, o, none⟩ l.length c (l.map fun (y : Nat) => Value.int .i64 y) (by simp) (fun j u hu => by rw [Addr.add_lit]; exact holds j u hu) ad 1 1 [.int .i64 x] rfl hnews (by omega) (by unfold maxLen; omega) (by omega)
      refine ⟨v', W', hrun, ?_, Ext.grown hg (by simp), .inr (fun g hg => (own_lt ho g hg).1)⟩
      rcases ho.2 with ⟨_, q⟩ | ⟨g, cap, cu, rfl, _, q1, q2, q3, q4, q5⟩
      · simp at q
      · refine .inr ⟨g, 0, cap, cu, by simp, by simpa using q2, q3, q1, by omega, fun j hj => ?_⟩
        simp only [List.length_append, List.length_singleton] at hj
        have h0 := congrArg (fun l => l[j]?) q5
        simp only [List.getElem?_take] at h0
        rw [if_pos (by omega)] at h0
        rw [Nat.zero_add]
        simp only [Array.getElem?_toList] at h0
        rw [h0]
        by_cases e : j = l.length
        · subst e; simp
        · rw [List.getElem?_append_left (by simp; omega)]
          simp [List.getD, List.getElem?_append_left (show j < l.length by omega), show j < l.length by omega]

/-! ### a row of nodes -/

def ncs : List Nd → List Value → List Value
  | x :: l, v :: vs => .int .i64 x.c :: v :: .int .i64 x.k :: ncs l vs
  | _, _ => []
def svAt (l : List Value) (i : Nat) : Value := l.getD i (.slice none 0 0)

theorem ncs_len : ∀ (l : List Nd) (vs : List Value), vs.length = l.length → (ncs l vs).length = l.length * 3
  | [], _, _ => by simp [ncs]
  | x :: l, [], h => by simp at h
  | x :: l, v :: vs, h => by simp only [ncs, List.length_cons]; rw [ncs_len l vs (by simpa using h)]; omega
theorem ncs_get : ∀ (l : List Nd) (vs : List Value) (i : Nat), vs.length = l.length → i < l.length → (ncs l vs)[i * 3]? = some (.int .i64 (ndAt l i).c) ∧ (ncs l vs)[i * 3 + 1]? = some (svAt vs i) ∧ (ncs l vs)[i * 3 + 2]? = some (.int .i64 (ndAt l i).k)
  | [], _, _, _, h => by simp at h
  | x :: l, [], _, h, _ => by simp at h
  | x :: l, v :: vs, 0, _, _ => by simp [ncs, ndAt, svAt]
  | x :: l, v :: vs, i + 1, h, hi => by
    have := ncs_get l vs i (by simpa using h) (by simpa using hi)
    simp only [ncs]
    rw [show (i + 1) * 3 = i * 3 + 3 by omega]
    simpa [ndAt, svAt] using this
theorem ncs_set : ∀ (l : List Nd) (vs : List Value) (i : Nat) (x : Nd) (v : Value), vs.length = l.length → i < l.length → ((((ncs l vs).set (i * 3) (.int .i64 x.c)).set (i * 3 + 1) v).set (i * 3 + 2) (.int .i64 x.k)) = ncs (l.set i x) (vs.set i v)
  | [], _, _, _, _, _, h => by simp at h
  | y :: l, [], _, _, _, h, _ => by simp at h
  | y :: l, u :: vs, 0, x, v, _, _ => by simp [ncs]
  | y :: l, u :: vs, i + 1, x, v, h, hi => by
    have := ncs_set l vs i x v (by simpa using h) (by simpa using hi)
    rw [show (i + 1) * 3 = i * 3 + 3 by omega]
    simp only [ncs, List.set_cons_succ, ← this]
theorem ncs_snoc : ∀ (l : List Nd) (vs : List Value) (x : Nd) (v : Value), vs.length = l.length → ncs (l ++ [x]) (vs ++ [v]) = ncs l vs ++ [.int .i64 x.c, v, .int .i64 x.k]
  | [], [], _, _, _ => rfl
  | [], _ :: _, _, _, h => by simp at h
  | x :: l, [], _, _, h => by simp at h
  | y :: l, u :: vs, x, v, h => by simp only [List.cons_append, ncs]; rw [ncs_snoc l vs x v (by simpa using h)]
theorem set_self {α : Type} {l : List α} {i : Nat} {x : α} (h : l[i]? = some x) : l.set i x = l := by
  apply List.ext_getElem?
  intro j
  by_cases e : i = j
  · subst e
    have := (List.getElem?_eq_some_iff.1 h).1
    rw [List.getElem?_set_self this, h]
  · rw [List.getElem?_set_ne e]
theorem svAt_get {l : List Value} {i : Nat} (h : i < l.length) : l[i]? = some (svAt l i) := by simp [svAt, List.getD, h]
theorem svAt_set {l : List Value} {i j : Nat} {x : Value} (h : i < l.length) : svAt (l.set i x) j = if j = i then x else svAt l j := by
  by_cases e : j = i
  · subst e; simp [svAt, List.getD, h]
  · rw [if_neg e]; simp [svAt, List.getD, List.getElem?_set_ne (Ne.symm e)]
theorem svAt_out {l : List Value} {i : Nat} (h : l.length ≤ i) : svAt l i = .slice none 0 0 := by simp [svAt, List.getD, h]
theorem ncs_setc (l : List Nd) (vs : List Value) (i c : Nat) (h : vs.length = l.length) (hi : i < l.length) : (ncs l vs).set (i * 3) (.int .i64 c) = ncs (l.set i ⟨c, (ndAt l i).s, (ndAt l i).k⟩) vs := by
  have h1 := ncs_set l vs i ⟨c, (ndAt l i).s, (ndAt l i).k⟩ (svAt vs i) h hi
  obtain ⟨g0, g1, g2⟩ := ncs_get l vs i h hi
  rw [set_self (svAt_get (by omega))] at h1
  rw [← h1, set_self (i := i * 3 + 1), set_self (i := i * 3 + 2)]
  · rw [List.getElem?_set_ne (by omega)]; exact g2
  · rw [List.getElem?_set_ne (by omega)]; exact g1
theorem ncs_setk (l : List Nd) (vs : List Value) (i k : Nat) (h : vs.length = l.length) (hi : i < l.length) : (ncs l vs).set (i * 3 + 2) (.int .i64 k) = ncs (l.set i ⟨(ndAt l i).c, (ndAt l i).s, k⟩) vs := by
  have h1 := ncs_set l vs i ⟨(ndAt l i).c, (ndAt l i).s, k⟩ (svAt vs i) h hi
  obtain ⟨g0, g1, g2⟩ := ncs_get l vs i h hi
  rw [set_self (svAt_get (by omega))] at h1
  rw [← h1, set_self (i := i * 3) g0, set_self (i := i * 3 + 1) g1]

/-! ### the graph -/

structure Gm (w : World) (p : Nat) (vn vl : Value) (SV : List Value) (G : Gs) : Prop where
  blk : w.heap[p]? = some (.cells #[vn, .int .i64 G.le, vl, .int .i64 G.ph, .int .i64 G.cy, .int .i64 G.pl, .int .i64 G.en, G.X.a, G.X.b, G.X.c, G.X.d, G.X.e, G.X.f, G.X.g] 85 (0, 0))
  row : w.ownsRow 0 154 3 vn G.ns.length (ncs G.ns SV)
  lin : Qu w vl G.ln
  svl : SV.length = G.ns.length
  slo : ∀ i, i < G.ns.length → Sl w (svAt SV i) (ndAt G.ns i).s
  sep : ∀ i j, i ≠ j → ∀ g, (svAt SV i).ownBlock = some g → (svAt SV j).ownBlock ≠ some g
  sel : ∀ i g, (svAt SV i).ownBlock = some g → vl.ownBlock ≠ some g

/-- Its blocks. -/
structure Ft (B : Nat → Prop) (p : Nat) (vn vl : Value) (SV : List Value) : Prop where
  p : B p
  n : ∀ g, vn.ownBlock = some g → B g
  l : ∀ g, vl.ownBlock = some g → B g
  s : ∀ i g, (svAt SV i).ownBlock = some g → B g

def Gr (w : World) (p : Nat) (G : Gs) (B : Nat → Prop) : Prop := ∃ vn vl SV, Gm w p vn vl SV G ∧ Ft B p vn vl SV

theorem Gm.slAll {w : World} {p : Nat} {vn vl : Value} {SV : List Value} {G : Gs} (h : Gm w p vn vl SV G) (i : Nat) : Sl w (svAt SV i) (ndAt G.ns i).s := by
  by_cases q : i < G.ns.length
  · exact h.slo i q
  · rw [svAt_out (by rw [h.svl]; omega), ndAt_out (by omega)]; exact .inl ⟨rfl, rfl⟩
theorem Gm.keep {B C : Nat → Prop} {w w' : World} {p : Nat} {vn vl : Value} {SV : List Value} {G : Gs} (h : Gm w p vn vl SV G) (f : Ft B p vn vl SV) (x : Fx C w w') (hd : ∀ k, B k → ¬ C k) : Gm w' p vn vl SV G :=
  ⟨x.keep h.blk (hd _ f.p), own_keepF h.row x (fun g hg => hd _ (f.n g hg)), h.lin.keep x (fun g hg => hd _ (f.l g hg)), h.svl, fun i hi => (h.slo i hi).keep x (fun g hg => hd _ (f.s i g hg)), h.sep, h.sel⟩
theorem Gr.keep {B C : Nat → Prop} {w w' : World} {p : Nat} {G : Gs} (h : Gr w p G B) (x : Fx C w w') (hd : ∀ k, B k → ¬ C k) : Gr w' p G B := by
  obtain ⟨vn, vl, SV, h1, h2⟩ := h
  exact ⟨vn, vl, SV, h1.keep h2 x hd, h2⟩
theorem Gr.keep0 {B : Nat → Prop} {w w' : World} {p : Nat} {G : Gs} (h : Gr w p G B) (x : Ext [] w w') : Gr w' p G B := h.keep (C := fun _ => False) (Fx.of_ext0 x) (fun _ _ q => q)
theorem Ft.mono {B C : Nat → Prop} {p : Nat} {vn vl : Value} {SV : List Value} (h : Ft B p vn vl SV) (hm : ∀ k, B k → C k) : Ft C p vn vl SV :=
  ⟨hm _ h.p, fun g hg => hm _ (h.n g hg), fun g hg => hm _ (h.l g hg), fun i g hg => hm _ (h.s i g hg)⟩
theorem Gr.mono {B C : Nat → Prop} {w : World} {p : Nat} {G : Gs} (h : Gr w p G B) (hm : ∀ k, B k → C k) : Gr w p G C := by
  obtain ⟨vn, vl, SV, h1, h2⟩ := h
  exact ⟨vn, vl, SV, h1, h2.mono hm⟩
/-- Its blocks are there. -/
theorem Gr.there {B : Nat → Prop} {w : World} {p : Nat} {G : Gs} (h : Gr w p G B) : Gr w p G (fun k => B k ∧ k < w.heap.size) := by
  obtain ⟨vn, vl, SV, h1, h2⟩ := h
  exact ⟨vn, vl, SV, h1, ⟨h2.p, lt_of_heap h1.blk⟩, fun g hg => ⟨h2.n g hg, (own_lt h1.row g hg).2⟩, fun g hg => ⟨h2.l g hg, h1.lin.lt g hg⟩, fun i g hg => ⟨h2.s i g hg, (h1.slAll i).lt g hg⟩⟩

/-- A row of another element type is another block. -/
theorem row_ne {w : World} {g k : Nat} {cs ds : Array Value} {t u : TypeId} {f f' : Nat × Nat} (h : w.heap[g]? = some (.cells cs t f)) (h' : w.heap[k]? = some (.cells ds u f')) (hne : t ≠ u) : g ≠ k := by
  intro e; subst e; rw [h] at h'; simp at h'; exact hne h'.2.1

theorem Gm.np {w : World} {p : Nat} {vn vl : Value} {SV : List Value} {G : Gs} (h : Gm w p vn vl SV G) : vn.ownBlock ≠ some p := fun q => by
  obtain ⟨cur, hc⟩ := own_at h.row q
  exact row_ne hc h.blk (by decide) rfl
theorem Gm.lp {w : World} {p : Nat} {vn vl : Value} {SV : List Value} {G : Gs} (h : Gm w p vn vl SV G) : vl.ownBlock ≠ some p := fun q => by
  obtain ⟨cur, hc⟩ := h.lin.row p q
  exact row_ne hc h.blk (by decide) rfl
theorem Gm.sp {w : World} {p : Nat} {vn vl : Value} {SV : List Value} {G : Gs} (h : Gm w p vn vl SV G) (i : Nat) : (svAt SV i).ownBlock ≠ some p := fun q => by
  obtain ⟨cur, hc⟩ := (h.slAll i).row p q
  exact row_ne hc h.blk (by decide) rfl
theorem Gm.nl {w : World} {p : Nat} {vn vl : Value} {SV : List Value} {G : Gs} (h : Gm w p vn vl SV G) : ∀ g, vn.ownBlock = some g → vl.ownBlock ≠ some g := fun g hg q => by
  obtain ⟨cur, hc⟩ := h.lin.row g q
  obtain ⟨cur', hc'⟩ := own_at h.row hg
  exact row_ne hc hc' (by decide) rfl
theorem Gm.nsl {w : World} {p : Nat} {vn vl : Value} {SV : List Value} {G : Gs} (h : Gm w p vn vl SV G) : ∀ g, vn.ownBlock = some g → ∀ i, (svAt SV i).ownBlock ≠ some g := fun g hg i q => by
  obtain ⟨cur, hc⟩ := (h.slAll i).row g q
  obtain ⟨cur', hc'⟩ := own_at h.row hg
  exact row_ne hc hc' (by decide) rfl

/-- A cell of the graph's own block is another. -/
theorem Gm.fld {w : World} {p : Nat} {vn vl : Value} {SV : List Value} {G : Gs} (h : Gm w p vn vl SV G) (o : Nat) (x : Value) (G' : Gs) (h1 : G'.ns = G.ns) (h2 : G'.ln = G.ln)
    (hc : (#[vn, .int .i64 G.le, vl, .int .i64 G.ph, .int .i64 G.cy, .int .i64 G.pl, .int .i64 G.en, G.X.a, G.X.b, G.X.c, G.X.d, G.X.e, G.X.f, G.X.g] : Array Value).setIfInBounds o x = #[vn, .int .i64 G'.le, vl, .int .i64 G'.ph, .int .i64 G'.cy, .int .i64 G'.pl, .int .i64 G'.en, G'.X.a, G'.X.b, G'.X.c, G'.X.d, G'.X.e, G'.X.f, G'.X.g]) :
    Gm (w.setCell ⟨p, o, none⟩ x) p vn vl SV G' := by
  have hE : Fx (fun k => k = p) w (w.setCell ⟨p, o, none⟩ x) := Fx.of_ext (Ext.setCell [p] w _ _ (by simp)) (by simp)
  refine ⟨by rw [heap_setCell_same _ _ _ _ _ _ h.blk, hc], ?_, ?_, by rw [h1]; exact h.svl, ?_, h.sep, h.sel⟩
  · rw [h1]; exact own_keepF h.row hE (fun g hg e => h.np (e ▸ hg))
  · rw [h2]; exact h.lin.keep hE (fun g hg e => h.lp (e ▸ hg))
  · rw [h1]; exact fun i hi => (h.slo i hi).keep hE (fun g hg e => h.sp i (e ▸ hg))

/-- The nodes' row is another. -/
theorem Gm.cell {w : World} {p : Nat} {vl : Value} {SV : List Value} {G : Gs} {g c : Nat} (h : Gm w p (.slice (some ⟨g, 0, none⟩) G.ns.length c) vl SV G) (j : Nat) (x : Value) (l : List Nd) (hl : l.length = G.ns.length) (hs : ∀ i, (ndAt l i).s = (ndAt G.ns i).s)
    (hc : (ncs G.ns SV).set j x = ncs l SV) : Gm (w.setCell ⟨g, j, none⟩ x) p (.slice (some ⟨g, 0, none⟩) G.ns.length c) vl SV { G with ns := l } := by
  have hE : Fx (fun k => k = g) w (w.setCell ⟨g, j, none⟩ x) := Fx.of_ext (Ext.setCell [g] w _ _ (by simp)) (by simp)
  have hr := (h.row.stored j x).1
  rw [hc] at hr
  refine ⟨hE.keep h.blk (fun e => h.np (by simp [Value.ownBlock, e])), ?_, h.lin.keep hE (fun k hk e => h.nl g rfl (e ▸ hk)), by rw [hl]; exact h.svl, fun i hi => ?_, h.sep, h.sel⟩
  · simp only [hl]; exact hr
  · rw [hs]; simp only [hl] at hi; exact (h.slo i hi).keep hE (fun k hk e => h.nsl g rfl i (e ▸ hk))
theorem Gm.setc {w : World} {p : Nat} {vl : Value} {SV : List Value} {G : Gs} {g c : Nat} (h : Gm w p (.slice (some ⟨g, 0, none⟩) G.ns.length c) vl SV G) (i q : Nat) (hi : i < G.ns.length) :
    Gm (w.setCell ⟨g, i * 3, none⟩ (.int .i64 q)) p (.slice (some ⟨g, 0, none⟩) G.ns.length c) vl SV { G with ns := G.ns.set i ⟨q, (ndAt G.ns i).s, (ndAt G.ns i).k⟩ } :=
  h.cell _ _ _ (by simp) (fun j => by rw [ndAt_set hi]; split; (next e => rw [e]); rfl) (ncs_setc _ _ _ _ h.svl hi)
theorem Gm.setk {w : World} {p : Nat} {vl : Value} {SV : List Value} {G : Gs} {g c : Nat} (h : Gm w p (.slice (some ⟨g, 0, none⟩) G.ns.length c) vl SV G) (i q : Nat) (hi : i < G.ns.length) :
    Gm (w.setCell ⟨g, i * 3 + 2, none⟩ (.int .i64 q)) p (.slice (some ⟨g, 0, none⟩) G.ns.length c) vl SV { G with ns := G.ns.set i ⟨(ndAt G.ns i).c, (ndAt G.ns i).s, q⟩ } :=
  h.cell _ _ _ (by simp) (fun j => by rw [ndAt_set hi]; split; (next e => rw [e]); rfl) (ncs_setk _ _ _ _ h.svl hi)

/-- A node is another, with slots of its own. -/
theorem Gm.setn {w : World} {p : Nat} {vl : Value} {SV : List Value} {G : Gs} {g c : Nat} (h : Gm w p (.slice (some ⟨g, 0, none⟩) G.ns.length c) vl SV G) (i : Nat) (x : Nd) (v : Value) (hi : i < G.ns.length) (hv : Sl w v x.s)
    (hd : ∀ k, v.ownBlock = some k → vl.ownBlock ≠ some k ∧ ∀ j, (svAt SV j).ownBlock ≠ some k) :
    Gm (((w.setCell ⟨g, i * 3, none⟩ (.int .i64 x.c)).setCell ⟨g, i * 3 + 1, none⟩ v).setCell ⟨g, i * 3 + 2, none⟩ (.int .i64 x.k)) p (.slice (some ⟨g, 0, none⟩) G.ns.length c) vl (SV.set i v) { G with ns := G.ns.set i x } := by
  have hE : Fx (fun k => k = g) w (((w.setCell ⟨g, i * 3, none⟩ (.int .i64 x.c)).setCell ⟨g, i * 3 + 1, none⟩ v).setCell ⟨g, i * 3 + 2, none⟩ (.int .i64 x.k)) :=
    Fx.of_ext (S := [g]) (((Ext.setCell [g] w _ _ (by simp)).trans (Ext.setCell [g] _ _ _ (by simp))).trans (Ext.setCell [g] _ _ _ (by simp))) (by simp)
  have hr := (((h.row.stored (i * 3) (.int .i64 x.c)).1.stored (i * 3 + 1) v).1.stored (i * 3 + 2) (.int .i64 x.k)).1
  rw [ncs_set _ _ _ _ _ h.svl hi] at hr
  have hvg : v.ownBlock ≠ some g := fun q => by
    obtain ⟨cs, hc⟩ := hv.row g q
    obtain ⟨cs', hc'⟩ := own_at h.row (q := g) rfl
    exact row_ne hc hc' (by decide) rfl
  have sv := fun j => svAt_set (l := SV) (i := i) (j := j) (x := v) (by rw [h.svl]; exact hi)
  refine ⟨hE.keep h.blk (fun e => h.np (by simp [Value.ownBlock, e])), by simpa using hr, h.lin.keep hE (fun k hk e => h.nl g rfl (e ▸ hk)), by simpa using h.svl, fun j hj => ?_, fun a b hab k => ?_, fun j k => ?_⟩
  · rw [sv]
    simp only
    rw [ndAt_set hi]
    split
    · exact hv.keep hE (fun k hk e => hvg (e ▸ hk))
    · exact (h.slo j (by simpa using hj)).keep hE (fun k hk e => h.nsl g rfl j (e ▸ hk))
  · rw [sv, sv]
    split
    · rename_i ea
      rw [if_neg (by omega)]
      exact fun q => (hd k q).2 b
    · split
      · exact fun q r => (hd k r).2 a q
      · exact h.sep a b hab k
  · rw [sv]
    split
    · exact fun q => (hd k q).1
    · exact h.sel j k

/-- A slot is another. -/
theorem Gm.slot {w : World} {p : Nat} {vn vl : Value} {SV : List Value} {G : Gs} (h : Gm w p vn vl SV G) (i j : Nat) (x : Int) (hi : i < G.ns.length) {g : Nat} (hg : svAt SV i = .slice (some ⟨g, 0, none⟩) (ndAt G.ns i).s.length (ndAt G.ns i).s.length) :
    Gm (w.setCell ⟨g, j, none⟩ (.int .i64 x)) p vn vl SV { G with ns := G.ns.set i ⟨(ndAt G.ns i).c, (ndAt G.ns i).s.set j x, (ndAt G.ns i).k⟩ } := by
  have hE : Fx (fun k => k = g) w (w.setCell ⟨g, j, none⟩ (.int .i64 x)) := Fx.of_ext (Ext.setCell [g] w _ _ (by simp)) (by simp)
  have hsg : (svAt SV i).ownBlock = some g := by rw [hg]; rfl
  have hrow : w.heap[g]? = some (.cells ((ndAt G.ns i).s.map (Value.int .i64)).toArray 3 (0, 0)) := by
    rcases h.slo i hi with ⟨q, _⟩ | ⟨g', q, r⟩
    · rw [hg] at q; simp at q
    · rw [hg] at q; simp at q; rw [q]; exact r
  refine ⟨hE.keep h.blk (fun e => h.sp i (by rw [hsg, e])), ?_, h.lin.keep hE (fun k hk e => h.sel i g hsg (e ▸ hk)), by simpa using h.svl, fun k hk => ?_, h.sep, h.sel⟩
  · have hr := own_keepF h.row hE (fun k hk e => h.nsl k hk i (by rw [hsg, e]))
    have e1 := ncs_setc G.ns SV i (ndAt G.ns i).c h.svl hi
    have e2 : ncs (G.ns.set i ⟨(ndAt G.ns i).c, (ndAt G.ns i).s.set j x, (ndAt G.ns i).k⟩) SV = ncs G.ns SV := by
      have h1 := ncs_set G.ns SV i ⟨(ndAt G.ns i).c, (ndAt G.ns i).s.set j x, (ndAt G.ns i).k⟩ (svAt SV i) h.svl hi
      obtain ⟨g0, g1, g2⟩ := ncs_get G.ns SV i h.svl hi
      rw [set_self (svAt_get (by rw [h.svl]; exact hi)), set_self (i := i * 3) g0, set_self (i := i * 3 + 1) g1, set_self (i := i * 3 + 2) g2] at h1
      exact h1.symm
    simp only [List.length_set]
    rw [e2]; exact hr
  · simp only [List.length_set] at hk
    simp only
    rw [ndAt_set hi]
    split
    · rename_i e
      rw [e, hg]
      refine .inr ⟨g, by simp, ?_⟩
      rw [heap_setCell_same _ _ _ _ _ _ hrow]
      simp
    · rename_i e
      exact (h.slo k hk).keep hE (fun q hq r => h.sep i k (Ne.symm e) g hsg (r ▸ hq))

/-- The line is another. -/
theorem Gm.line {w w2 : World} {p : Nat} {vn vl vl' : Value} {SV : List Value} {G : Gs} (h : Gm w p vn vl SV G) (hE : Ext vl.ownBlock.toList w w2) (l : List Nat) (hq : Qu w2 vl' l) (hv : vl'.ownBlock = vl.ownBlock ∨ ∀ g, vl'.ownBlock = some g → w.heap.size ≤ g) :
    Gm (w2.setCell ⟨p, 2, none⟩ vl') p vn vl' SV { G with ln := l } := by
  have hF : Fx (fun k => vl.ownBlock = some k) w w2 := Fx.of_ext hE (fun x hx => .inl (by simpa using hx))
  have hE2 : Fx (fun k => k = p) w2 (w2.setCell ⟨p, 2, none⟩ vl') := Fx.of_ext (Ext.setCell [p] w2 _ _ (by simp)) (by simp)
  have hb2 := hF.keep h.blk h.lp
  have hps := lt_of_heap h.blk
  refine ⟨by rw [heap_setCell_same _ _ _ _ _ _ hb2]; rfl, ?_, ?_, h.svl, fun i hi => ?_, h.sep, fun i g hg => ?_⟩
  · exact own_keepF (own_keepF h.row hF (fun g hg => h.nl g hg)) hE2 (fun g hg e => h.np (e ▸ hg))
  · refine hq.keep hE2 (fun g hg e => ?_)
    subst e
    rcases hv with q | q
    · exact h.lp (q ▸ hg)
    · have := q _ hg; omega
  · exact ((h.slo i hi).keep hF (fun g hg => h.sel i g hg)).keep hE2 (fun g hg e => h.sp i (e ▸ hg))
  · rcases hv with q | q
    · rw [q]; exact h.sel i g hg
    · intro r; have := q _ r; have := (h.slAll i).lt g hg; omega

/-- The nodes' row is another value. -/
theorem Gm.rown {w w2 : World} {p : Nat} {vn vl vn' : Value} {SV : List Value} {G : Gs} (h : Gm w p vn vl SV G) (hE : Ext vn.ownBlock.toList w w2) (hr : w2.ownsRow 0 154 3 vn' (G.ns.length + 1) (ncs (G.ns ++ [nz]) (SV ++ [.slice none 0 0]))) :
    Gm (w2.setCell ⟨p, 0, none⟩ vn') p vn' vl (SV ++ [.slice none 0 0]) { G with ns := G.ns ++ [nz] } := by
  have hF : Fx (fun k => vn.ownBlock = some k) w w2 := Fx.of_ext hE (fun x hx => .inl (by simpa using hx))
  have hE2 : Fx (fun k => k = p) w2 (w2.setCell ⟨p, 0, none⟩ vn') := Fx.of_ext (Ext.setCell [p] w2 _ _ (by simp)) (by simp)
  have hb2 := hF.keep h.blk h.np
  have sv : ∀ j, svAt (SV ++ [.slice none 0 0]) j = svAt SV j := fun j => by
    by_cases q : j < SV.length
    · simp [svAt, List.getD, List.getElem?_append_left q]
    · rw [svAt_out (l := SV) (by omega)]
      by_cases e : j = SV.length
      · subst e; simp [svAt, List.getD]
      · exact svAt_out (by simp; omega)
  refine ⟨by rw [heap_setCell_same _ _ _ _ _ _ hb2]; rfl, ?_, ?_, by simp [h.svl], fun i hi => ?_, fun a b hab k => ?_, fun i g => ?_⟩
  · simp only [List.length_append, List.length_singleton]
    refine own_keepF hr hE2 (fun g hg e => ?_)
    obtain ⟨cur, hc⟩ := own_at hr hg
    exact row_ne hc hb2 (by decide) e
  · exact (h.lin.keep hF (fun g hg r => h.nl g r hg)).keep hE2 (fun g hg e => h.lp (e ▸ hg))
  · rw [sv]
    simp only [ndAt_snoc]
    split
    · rename_i e
      rw [e, svAt_out (by rw [h.svl]; exact Nat.le_refl _)]
      exact .inl ⟨rfl, rfl⟩
    · exact ((h.slAll i).keep hF (fun g hg r => h.nsl g r i hg)).keep hE2 (fun g hg e => h.sp i (e ▸ hg))
  · rw [sv, sv]; exact h.sep a b hab k
  · rw [sv]; exact h.sel i g

/-- What a walk reads of a node. -/
theorem Gm.node {w : World} {p : Nat} {vn vl : Value} {SV : List Value} {G : Gs} (h : Gm w p vn vl SV G) {i : Nat} (hi : i < G.ns.length) : ∃ g c, vn = .slice (some ⟨g, 0, none⟩) G.ns.length c ∧ G.ns.length ≤ c ∧ g ≠ p ∧ g < w.heap.size ∧
    w.cell? ⟨g, i * 3, none⟩ = some (.int .i64 (ndAt G.ns i).c) ∧ w.cell? ⟨g, i * 3 + 1, none⟩ = some (svAt SV i) ∧ w.cell? ⟨g, i * 3 + 2, none⟩ = some (.int .i64 (ndAt G.ns i).k) ∧ ∀ j, w.frozen? ⟨g, j, none⟩ = false := by
  obtain ⟨g, c, rfl, _⟩ := h.row.form (by omega)
  obtain ⟨a', c', e, hc⟩ := own_slice h.row
  simp only [Value.slice.injEq] at e
  obtain ⟨_, _, rfl⟩ := e
  obtain ⟨g0, g1, g2⟩ := ncs_get G.ns SV i h.svl hi
  exact ⟨g, c, rfl, hc, fun e => h.np (by simp [Value.ownBlock, e]), (own_lt h.row g rfl).2, by rw [h.row.cellAt _ (by omega)]; exact g0, by rw [h.row.cellAt _ (by omega)]; exact g1, by rw [h.row.cellAt _ (by omega)]; exact g2, fun j => h.row.frozenAt j⟩
theorem Gm.flds {w : World} {p : Nat} {vn vl : Value} {SV : List Value} {G : Gs} (h : Gm w p vn vl SV G) : w.cell? ⟨p, 0, none⟩ = some vn ∧ w.cell? ⟨p, 1, none⟩ = some (.int .i64 G.le) ∧ w.cell? ⟨p, 2, none⟩ = some vl ∧ w.cell? ⟨p, 3, none⟩ = some (.int .i64 G.ph) ∧ w.cell? ⟨p, 4, none⟩ = some (.int .i64 G.cy) ∧ w.cell? ⟨p, 5, none⟩ = some (.int .i64 G.pl) ∧ w.cell? ⟨p, 6, none⟩ = some (.int .i64 G.en) := by
  simp only [cell_of_row _ _ _ _ _ _ h.blk]
  exact ⟨rfl, rfl, rfl, rfl, rfl, rfl, rfl⟩
theorem Gm.froz {w : World} {p : Nat} {vn vl : Value} {SV : List Value} {G : Gs} (h : Gm w p vn vl SV G) (j : Nat) : w.frozen? ⟨p, j, none⟩ = false := frozen_of_row _ _ _ _ _ h.blk

end Go.Proofs.YtjbbomokgpoilaaGreatDoor.Co

/-
  The program's live, fault and shade; no statement is proved here.
-/
namespace Go.Proofs.YtjbbomokgpoilaaGreatDoor.Co
open Go.RowKit

/-- What is new besides. -/
def Nw (B : Nat → Prop) (w : World) : Nat → Prop := fun k => B k ∨ w.heap.size ≤ k
/-- How a graph has turned, and what was answered. -/
def GPost (w : World) (p : Nat) (G' : Gs) (B : Nat → Prop) (r : Value) (e : Ending) (w' : World) : Prop := e = .returned r ∧ Gr w' p G' (Nw B w) ∧ Fx B w w'

theorem live_nat (p : Nat) (G : Gs) (B : Nat → Prop) (i : Nat) (w : World) (h : Gr w p G B) (_hlen : G.ns.length ≤ 65536) (hi : i < G.ns.length) : Calls Tryz.prog 99 #[.pointer (some ⟨p, 0, none⟩), .int .i64 i] w fun e w' => e = .returned (.bool (decide (lvN G i))) ∧ w' = w := by
  obtain ⟨vn, vl, SV, h, _⟩ := h
  obtain ⟨g, c, rfl, hc, hgp, hgl, c0, _, _, _⟩ := h.node hi
  obtain ⟨f0, _⟩ := h.flds
  have HL : Hid (decide (lvN G i) = (decide ((ndAt G.ns i).c ≠ 0) && decide ((ndAt G.ns i).c ≠ 4))) := by
    show _ = _
    by_cases a : (ndAt G.ns i).c = 0 <;> by_cases b : (ndAt G.ns i).c = 4 <;> simp [lvN, a, b]
  clear h
  generalize (ndAt G.ns i).c = q at *
  generalize G.ns.length = n at *
  have hi2 : ¬ (n : Int) ≤ i := by omega
  have hi3 : ¬ (i : Int) < 0 := by omega
  by_cases h0 : q = 0
  · subst h0
    go_enter Tryz.func99, Tryz.ntmps99
    go_wp2
    go_ret
    exact ⟨by rw [HL.out]; rfl, rfl⟩
  · have h0' : ((q : Int) != 0) = true := by simp; omega
    by_cases h4 : q = 4
    · subst h4
      go_enter Tryz.func99, Tryz.ntmps99
      go_wp2
      go_ret
      exact ⟨by rw [HL.out]; rfl, rfl⟩
    · have h4' : ((q : Int) != 4) = true := by simp; omega
      have HT : Hid (decide (lvN G i) = true) := by show _ = _; rw [HL.out]; simp [h0, h4]
      clear h0 h4 HL
      go_enter Tryz.func99, Tryz.ntmps99
      go_wp2
      go_ret
      exact ⟨by rw [HT.out]; rfl, rfl⟩

theorem live_any (p : Nat) (G : Gs) (B : Nat → Prop) (x : Int) (w : World) (h : Gr w p G B) (hlen : G.ns.length ≤ 65536) : Calls Tryz.prog 99 #[.pointer (some ⟨p, 0, none⟩), .int .i64 x] w fun e w' => e = .returned (.bool (lvB G x)) ∧ w' = w := by
  by_cases h1 : x < 0
  · have HL : Hid (lvB G x = false) := by show _ = _; simp [lvB]; omega
    clear h
    go_enter Tryz.func99, Tryz.ntmps99
    go_wp2
    go_ret
    exact ⟨by rw [HL.out]; rfl, rfl⟩
  · obtain ⟨i, rfl⟩ : ∃ i : Nat, x = i := ⟨x.toNat, by omega⟩
    by_cases h2 : i < G.ns.length
    · rw [lvB_nat]; exact live_nat p G B i w h hlen h2
    · have HL : Hid (lvB G i = false) := by
        show _ = _
        rw [lvB_nat]
        simp only [decide_eq_false_iff_not]
        exact fun q => h2 (lvN_lt q)
      obtain ⟨vn, vl, SV, h, _⟩ := h
      obtain ⟨f0, _⟩ := h.flds
      obtain ⟨a, c, rfl, _⟩ := own_slice h.row
      have h3 : (G.ns.length : Int) ≤ i := by omega
      clear h
      generalize G.ns.length = n at *
      go_enter Tryz.func99, Tryz.ntmps99
      go_wp2
      go_ret
      exact ⟨by rw [HL.out]; rfl, rfl⟩

/-- The error of a number that should be a live node's. -/
def fl (G : Gs) (x : Int) : Int := if lvB G x then 0 else 4
theorem fault_any (p : Nat) (G : Gs) (B : Nat → Prop) (x : Int) (w : World) (h : Gr w p G B) (hlen : G.ns.length ≤ 65536) : Calls Tryz.prog 97 #[.pointer (some ⟨p, 0, none⟩), .int .i64 x] w fun e w' => e = .returned (.int .i64 (fl G x)) ∧ w' = w := by
  have K := live_any p G B x w h hlen
  clear h
  unfold fl
  generalize lvB G x = b at *
  cases b
  · go_enter Tryz.func97, Tryz.ntmps97
    go_wp2_with (go_at_call 99; refine met K ?_)
    go_ret
    exact ⟨rfl, rfl⟩
  · go_enter Tryz.func97, Tryz.ntmps97
    go_wp2_with (go_at_call 99; refine met K ?_)
    go_ret
    exact ⟨rfl, rfl⟩
theorem fault_nil (x : Int) (w : World) : Calls Tryz.prog 97 #[.pointer none, .int .i64 x] w fun e w' => e = .returned (.int .i64 2) ∧ w' = w := by
  go_enter Tryz.func97, Tryz.ntmps97
  go_wp2_with fail
  go_ret
  exact ⟨rfl, rfl⟩

theorem gr_same {w : World} {p : Nat} {G : Gs} {B : Nat → Prop} (h : Gr w p G B) (r : Value) : GPost w p G B r (.returned r) w := ⟨rfl, h.mono (fun _ q => .inl q), Fx.refl _ _⟩

/-- What shading leaves: the line alone is another value. -/
def ShPost (w : World) (p : Nat) (vn : Value) (SV : List Value) (G' : Gs) (B : Nat → Prop) (e : Ending) (w' : World) : Prop :=
  e = .returned (.tuple #[]) ∧ (∃ vl', Gm w' p vn vl' SV G' ∧ Ft (Nw B w) p vn vl' SV) ∧ Fx B w w'
theorem sh_same {w : World} {p : Nat} {vn vl : Value} {SV : List Value} {G : Gs} {B : Nat → Prop} (h : Gm w p vn vl SV G) (f : Ft B p vn vl SV) : ShPost w p vn SV G B (.returned (.tuple #[])) w := ⟨rfl, ⟨vl, h, f.mono (fun _ q => .inl q)⟩, Fx.refl _ _⟩

set_option maxHeartbeats 1000000 in
theorem shade_gm (p : Nat) (G : Gs) (B : Nat → Prop) (x : Int) (w : World) (vn vl : Value) (SV : List Value) (h : Gm w p vn vl SV G) (hft : Ft B p vn vl SV) (hx : x = -1 ∨ 0 ≤ x ∧ x.toNat < G.ns.length) (hln : G.ln.length ≤ 1000000) (_hlen : G.ns.length ≤ 65536) :
    Calls Tryz.prog 98 #[.pointer (some ⟨p, 0, none⟩), .int .i64 x] w (ShPost w p vn SV (sh G x) B) := by
  rcases hx with rfl | ⟨hx0, hxl⟩
  · have HF := hid (sh_same h hft)
    clear h hft
    go_enter Tryz.func98, Tryz.ntmps98
    go_wp2
    go_end0
    exact HF.out
  · obtain ⟨i, rfl⟩ : ∃ i : Nat, x = i := ⟨x.toNat, by omega⟩
    have hsh : sh G i = shN G i := by
      have : ((i : Int)) ≠ -1 := by omega
      simp [sh, this]
    rw [hsh]
    simp only [Int.toNat_natCast] at hxl
    have HF := hid (sh_same h hft)
    obtain ⟨g, c, rfl, hc, hgp, hgl, c0, c1, c2, cf⟩ := h.node hxl
    obtain ⟨f0, _, f2, _⟩ := h.flds
    have hb1 : ((i : Int) == -1) = false := by simp
    have hil : (i : Int) < G.ns.length := by omega
    by_cases h1 : (ndAt G.ns i).c = 1
    · have HS : Hid (shN G i = { G with ns := G.ns.set i ⟨2, (ndAt G.ns i).s, 0⟩, ln := G.ln ++ [i] }) := by show _ = _; simp only [shN, h1, if_true]
      have hm1 := h.setc i 2 hxl
      have hm2 := Gm.setk (G := { G with ns := G.ns.set i ⟨2, (ndAt G.ns i).s, (ndAt G.ns i).k⟩ }) (c := c) (g := g) (by simpa using hm1) i 0 (by simpa using hxl)
      simp only [ndAt_set hxl, if_true, List.set_set, List.length_set] at hm2
      have HM := hid hm2
      have HX : Hid (Fx B w ((w.setCell ⟨g, i * 3, none⟩ (.int .i64 (2 : Nat))).setCell ⟨g, i * 3 + 2, none⟩ (.int .i64 (0 : Nat)))) := Fx.of_ext (S := [g]) ((Ext.setCell [g] w _ _ (by simp)).trans (Ext.setCell [g] _ _ _ (by simp))) (by simp; exact .inl (hft.n g rfl))
      have HT := hid hft
      rw [h1] at c0
      have cf0 := cf (i * 3)
      have cf2 := cf (i * 3 + 2)
      clear h hm1 hm2 HF cf hft h1
      go_enter Tryz.func98, Tryz.ntmps98
      go_upto_region 3 with fail
      generalize hW2 : (w.setCell ⟨g, i * 3, none⟩ (.int .i64 2)).setCell ⟨g, i * 3 + 2, none⟩ (.int .i64 0) = W2 at *
      have HM2 := HM
      have HX2 := HX
      clear hW2 c0 c1 c2 cf0 cf2 f0 f2 HM HX
      have hna := cell_of_row _ W2.heap.size 0 _ _ _ (heap_alloc_new W2 (.cells #[.int .i64 i] 3))
      have hEa := Ext.alloc [] W2 (.cells #[.int .i64 (i : Int)] 3)
      obtain ⟨v', W3, hr, hq, hE3, hv'⟩ := HM2.out.lin.push _ hEa ⟨W2.heap.size, 0, none⟩ i hna hln 32
      have hE23 : Ext vl.ownBlock.toList W2 W3 := (hEa.mono (by simp)).trans hE3
      have HM3 := hid (HM2.out.line hE23 _ hq (hv'.imp id (fun q k hk => by have := q k hk; simp at this; omega)))
      have HX3 : Hid (Fx B w (W3.setCell ⟨p, 2, none⟩ v')) := by
        refine HX2.out.trans (C := B) (Fx.of_ext (S := p :: vl.ownBlock.toList) ((hE23.mono (by simp; intro a ha; exact .inr ha)).trans (Ext.setCell _ _ _ _ (by simp))) ?_) (fun _ q => .inl q)
        intro k hk
        simp only [List.mem_cons, Option.mem_toList] at hk
        rcases hk with rfl | hk
        · exact .inl HT.out.p
        · exact .inl (HT.out.l k hk)
      have HF3 : Hid (Ft (Nw B w) p (.slice (some ⟨g, 0, none⟩) G.ns.length c) v' SV) := by
        refine ⟨.inl HT.out.p, fun k hk => .inl (HT.out.n k hk), fun k hk => ?_, fun j k hk => .inl (HT.out.s j k hk)⟩
        rcases hv' with q | q
        · exact .inl (HT.out.l k (q ▸ hk))
        · right; have := q k hk; have := HX2.out.size; simp at *; omega
      obtain ⟨fa0, _, fa2, _⟩ := HM2.out.flds
      have hb3 : W3.heap[p]? = _ := hE23.keep HM2.out.blk (by simpa using HM2.out.lp)
      have fb := frozen_of_row W3 p 2 _ _ hb3
      have fc : W3.cell? ⟨p, 2, none⟩ = some vl := by rw [cell_of_row _ _ _ _ _ _ hb3]; rfl
      obtain ⟨av, cv, rfl, _⟩ := HM2.out.lin.slice
      obtain ⟨av', cv', hv2, _⟩ := hq.slice
      rw [List.length_append, List.length_singleton] at hv2
      subst hv2
      clear hEa hna hq hE3 hE23 hv' HM2 HX2 hb3
      go_upto_region 4 with (at_builtin; refine wpList_append_run rfl _ _ 32 rfl _ _ _ rfl rfl hr ?_)
      go_end0
      refine ⟨rfl, ⟨_, ?_, HF3.out⟩, HX3.out⟩
      rw [HS.out]
      exact HM3.out
    · have HS : Hid (shN G i = G) := by show _ = _; simp only [shN, h1, if_false]
      have h1' : (((ndAt G.ns i).c : Int) != 1) = true := by simp; omega
      clear h h1 cf c1 c2 f2 hft
      go_enter Tryz.func98, Tryz.ntmps98
      go_wp2
      go_end0
      rw [HS.out]
      exact HF.out

theorem shade_any (p : Nat) (G : Gs) (B : Nat → Prop) (x : Int) (w : World) (h : Gr w p G B) (hx : x = -1 ∨ 0 ≤ x ∧ x.toNat < G.ns.length) (hln : G.ln.length ≤ 1000000) (hlen : G.ns.length ≤ 65536) :
    Calls Tryz.prog 98 #[.pointer (some ⟨p, 0, none⟩), .int .i64 x] w (GPost w p (sh G x) B (.tuple #[])) := by
  obtain ⟨vn, vl, SV, h, ft⟩ := h
  refine (shade_gm p G B x w vn vl SV h ft hx hln hlen).mono ?_
  rintro e w' ⟨rfl, ⟨vl', h1, h2⟩, hX⟩
  exact ⟨rfl, ⟨_, _, _, h1, h2⟩, hX⟩

end Go.Proofs.YtjbbomokgpoilaaGreatDoor.Co

/-
  The library's product, at this program; no statement is proved here.
-/
namespace Go.Proofs
open Go.Shelf
def Tryz.lays212_ren : Go.Shelf.Ren := ⟨fun | 212 => 123 | 263 => 129 | 264 => 130 | n => n, fun | 46 => 173 | 51 => 178 | 146 => 179 | 53 => 27 | 148 => 181 | n => n, fun | n => n⟩
theorem Tryz.lays212 : Go.Proofs.Lays.n212 Tryz.prog Tryz.lays212_ren := {
  mixed := by kernel_rfl
  f212 := Tryz.func123.trans (congrArg some (by kernel_rfl))
  f263 := Tryz.func129.trans (congrArg some (by kernel_rfl))
  f264 := Tryz.func130.trans (congrArg some (by kernel_rfl))
  t46 := Tryz.underlying173
  a46 := Tryz.isAgg173
  z46 := Tryz.sizeOf173
  v46 := Tryz.zeroValue173
  t51 := Tryz.underlying178
  a51 := Tryz.isAgg178
  z51 := Tryz.sizeOf178
  v51 := Tryz.zeroValue178
  t53 := Tryz.underlying27
  a53 := Tryz.isAgg27
  z53 := Tryz.sizeOf27
  v53 := Tryz.zeroValue27
  t146 := Tryz.underlying179
  a146 := Tryz.isAgg179
  z146 := Tryz.sizeOf179
  v146 := Tryz.zeroValue179
  t148 := Tryz.underlying181
  a148 := Tryz.isAgg181
  z148 := Tryz.sizeOf181
  v148 := Tryz.zeroValue181 }
open Go.RowKit Go.Lib in
theorem Tryz.bits_Mul (x y : Nat) (hx : x < 18446744073709551616) (hy : y < 18446744073709551616) (w : World) :
    Calls Tryz.prog 123 #[.int .u64 x, .int .u64 y] w fun e w' => e = .returned (.tuple #[.int .u64 ((x * y / 18446744073709551616 : Nat) : Int), .int .u64 ((x * y % 18446744073709551616 : Nat) : Int)]) ∧ w' = w := Any.bits_Mul Tryz.lays212 x y hx hy w
end Go.Proofs

/-
  The library's sort, turning round and Repeat at lists of one's own; no statement is proved here.
-/
namespace Go.Proofs.YtjbbomokgpoilaaGreatDoor.Co
open Go.RowKit

/-- copy between slices of elements of k cells, the target a row that is known whole. -/
theorem run_copy_k {P : Program} (w : World) (dT sT ty elem : TypeId) (k g o dLen dCap : Nat) (a : Addr) (sLen sCap m : Nat) (cur : List Value) (t : TypeId) (cs : List Value)
    (hu : P.underlying dT = some (.slice elem)) (hs : (P.info? elem).map (·.size) = some k) (hg : w.heap[g]? = some (.cells cur.toArray t (0, 0))) (hm : Nat.min sLen dLen = m) (hn : cs.length = m * k)
    (hsrc : ∀ j v, cs[j]? = some v → w.cell? (a.add j) = some v) (hfit : o + cs.length ≤ cur.length) (h1 : ∀ v ∈ cs, v.oneCell' = true) :
    (Builtin.copy_ #[dT, sT] ty #[.slice (some ⟨g, o, none⟩) dLen dCap, .slice (some a) sLen sCap]).run P w = .ok (goInt m) (w.setRow g (splice cur o cs).toArray) := by
  have hf := run_firstCells_some (P := P) w k m a sLen sCap cs hn hsrc
  have hst := run_storeCells_at P g o t cs 0 cur.toArray w hg (by simpa using hfit) h1
  cases hq : P.info? elem with
  | none => simp [hq] at hs
  | some i =>
    have hi : i.size = k := by simpa [hq] using hs
    simp only [Nat.add_zero] at hst
    simp [Builtin.copy_, run_underlying hu, Builtin.lenOf, sizeOf, typeInfo, hq, hi, hm, hf, hst, splice]

theorem wpList_copy_run {P : Program} {w w' : World} {ops : Array Oper} {rest : List Oper} {o : Oper} {a : Act} {Q : Exit → Act → World → Prop} (hgd : o.guard = none) (d s : Operand) (t t' : TypeId)
    (ho : o.op = .call { callee := .builtin .copy, args := #[d, s], argTypes := #[t, t'] }) (vd vs v' : Value) (hd : a.eval d = vd) (hs : a.eval s = vs)
    (hr : (Builtin.copy_ #[t, t'] o.type #[vd, vs]).run P w = .ok v' w') (h : wpList P ops Q rest (a.put o.dst v') w') : wpList P ops Q (o :: rest) a w := by
  refine wpList_plain hgd fun K hK => ?_
  unfold Oper.wp execOp
  simp only [ho, resolve, invoke, builtin, Sem.run_bind, Sem.run_pure, Result.andThen_ok, List.map_toArray, List.map_cons, List.map_nil, hd, hs, hr]
  exact hK _ _ h

theorem step_copy_run {P : Program} {ops : Array Oper} {o : Oper} {a : Act} {w w' : World} {K : Act → World → Prop} {Q : Exit → Act → World → Prop} {E : Prop} (hgd : o.guard = none) (d s : Operand) (t t' : TypeId)
    (ho : o.op = .call { callee := .builtin .copy, args := #[d, s], argTypes := #[t, t'] }) (vd vs v' : Value) (hd : a.eval d = vd) (hs : a.eval s = vs)
    (hr : (Builtin.copy_ #[t, t'] o.type #[vd, vs]).run P w = .ok v' w') (h : K (a.put o.dst v') w') :
    if Region.wanted o (yielded ops a.tmps) = true then Oper.wp P o a w K Q else E := by
  rw [if_pos (by simp [Region.wanted, hgd])]
  unfold Oper.wp execOp
  simp only [ho, resolve, invoke, builtin, Sem.run_bind, Sem.run_pure, Result.andThen_ok, List.map_toArray, List.map_cons, List.map_nil, hd, hs, hr]
  exact h


/-! ### Repeat -/

theorem size3 : (Tryz.prog.info? 3).map (·.size) = some 1 := by kernel_rfl

/-- So many numbers -1, then 0. -/
def fil (n k : Nat) : List Value := List.replicate k (.int .i64 (-1)) ++ List.replicate (n - k) (.int .i64 0)
theorem fil_len (n k : Nat) (h : k ≤ n) : (fil n k).length = n := by simp [fil]; omega
theorem fil_splice (n k m : Nat) (h : k + m ≤ n) : splice (fil n k) k (List.replicate m (.int .i64 (-1))) = fil n (k + m) := by
  simp only [splice, fil, List.length_replicate]
  rw [List.take_append_of_le_length (by simp), List.take_of_length_le (by simp), List.drop_append, List.drop_eq_nil_of_le (by simp)]
  simp only [List.length_replicate, List.nil_append, List.drop_replicate]
  rw [← List.append_assoc, List.replicate_append_replicate]
  congr 2
  omega
theorem fil_full (n : Nat) : fil n n = List.replicate n (.int .i64 (-1)) := by simp [fil]

def RpPost (w : World) (n : Nat) (e : Ending) (w' : World) : Prop :=
  ∃ g, e = .returned (.slice (some ⟨g, 0, none⟩) n n) ∧ w.heap.size ≤ g ∧ w'.heap[g]? = some (.cells (List.replicate n (Value.int .i64 (-1))).toArray 3 (0, 0)) ∧ Ext [] w w'

set_option maxRecDepth 100000 in
set_option maxHeartbeats 2000000 in
theorem repeat_any (b n : Nat) (w : World) (hb : w.cell? ⟨b, 0, none⟩ = some (.int .i64 (-1))) (hn : n ≤ 65536) : Calls Tryz.prog 101 #[.slice (some ⟨b, 0, none⟩) 1 1, .int .i64 n] w (RpPost w n) := by
  have K := Tryz.bits_Mul 1 n (by omega) (by omega) w
  rw [show (1 * n / 18446744073709551616 : Nat) = 0 by omega, show (1 * n % 18446744073709551616 : Nat) = n by omega] at K
  obtain ⟨i3, hi3, hz3, hs3, hy3⟩ := info_parts info3
  have hr := run_make (P := Tryz.prog) w 32 3 i3 _ Tryz.underlying32 hi3 hz3 .i64 .i64 n n (by omega) (Int.le_refl _) (by rw [hy3]; omega) (by omega)
  rw [hs3] at hr
  simp only [Int.toNat_natCast] at hr
  have hm : madeCells (Value.int .i64 0).cells (n * 1) = (fil n 0).toArray := by
    apply Array.toList_inj.1
    rw [show (Value.int .i64 0).cells = #[.int .i64 0] from rfl, toList_madeCells_one]
    simp [fil]
  rw [hm] at hr
  have hbl : b < w.heap.size := block_lt_of_cell hb
  have hm1 : Nat.min 1 n ≤ 1 := Nat.min_le_left 1 n
  have hm2 : Nat.min 1 n ≤ n := Nat.min_le_right 1 n
  have hE0 := Ext.alloc [] w (.cells (fil n 0).toArray 3)
  have hg0 : (w.alloc (.cells (fil n 0).toArray 3)).heap[w.heap.size]? = some (.cells (fil n 0).toArray 3 (0, 0)) := heap_alloc_new w _
  have hcp := run_copy_k (P := Tryz.prog) _ 32 32 3 3 1 w.heap.size 0 n n ⟨b, 0, none⟩ 1 1 (Nat.min 1 n) (fil n 0) 3 (List.replicate (Nat.min 1 n) (.int .i64 (-1))) Tryz.underlying32 size3 hg0 rfl (by simp) (fun j u hu => by
    rw [List.getElem?_replicate] at hu
    split at hu
    · rename_i hj
      obtain rfl : j = 0 := by omega
      cases hu
      rw [Addr.add_lit]
      exact hE0.cell hb (by simp)
    · cases hu) (by rw [fil_len _ _ (by omega), List.length_replicate]; omega) (by simp [Value.oneCell'])
  rw [show splice (fil n 0) 0 (List.replicate (Nat.min 1 n) (Value.int .i64 (-1))) = fil n (Nat.min 1 n) by have := fil_splice n 0 (Nat.min 1 n) (by omega); simpa using this] at hcp
  have HX1 : Hid (Ext [] w ((w.alloc (.cells (fil n 0).toArray 3)).setRow w.heap.size (fil n (Nat.min 1 n)).toArray)) := (Ext.alloc [] _ _).on (Ext.setRow [w.heap.size] _ _ _ (by simp)) (by simp)
  have HG1 : Hid (((w.alloc (.cells (fil n 0).toArray 3)).setRow w.heap.size (fil n (Nat.min 1 n)).toArray).heap[w.heap.size]? = some (.cells (fil n (Nat.min 1 n)).toArray 3 (0, 0))) := by
    show _ = _
    exact setRow_heap _ _ _ _ _ _ hg0
  have HM0 : Hid (n = 0 ∨ Nat.min 1 n = 1) := by
    show _ ∨ _
    by_cases h : n = 0
    · exact .inl h
    · exact .inr (Nat.min_eq_left (by omega))
  generalize Nat.min 1 n = m1 at *
  clear hm hi3 hz3 hs3 hy3 hE0 hg0
  go_enter Tryz.func101, Tryz.ntmps101
  go_wp2_with (first | (go_at_call 123; refine met K ?_) | (at_builtin; refine wpList_copy_run rfl _ _ 32 32 rfl _ _ _ rfl rfl hcp ?_))
  generalize hW1 : (w.alloc (.cells (fil n 0).toArray 3)).setRow w.heap.size (fil n m1).toArray = W1 at *
  clear hW1 hcp hr K
  go_loopg [8] (n - m1) (fun q u wr => ∃ k : Nat, u = .int .i64 k ∧ k ≤ n ∧ n - k ≤ q ∧ (n = 0 ∨ 0 < k) ∧ Ext [] w wr ∧ wr.heap[w.heap.size]? = some (.cells (fil n k).toArray 3 (0, 0)))
  case atStart => exact ⟨m1, rfl, hm2, by omega, by have := HM0.out; omega, HX1.out, HG1.out⟩
  case round =>
    clear HX1 HG1 HM0 hm1 hm2
    obtain ⟨k, rfl, hk, hkq, hk0, hE, hg⟩ := hrel
    have HE := hid hE
    have HG := hid hg
    clear hE hg
    by_cases hlt : k < n
    · have hk1 : 0 < k := by omega
      have hmin : Nat.min k (n - k) ≤ n - k := Nat.min_le_right _ _
      have hmin2 : Nat.min k (n - k) ≤ k := Nat.min_le_left _ _
      have HMp : Hid (0 < Nat.min k (n - k)) := by
        show 0 < _
        exact Nat.lt_min.2 ⟨hk1, by omega⟩
      have hgd : wr.drew.heap[w.heap.size]? = some (.cells (fil n k).toArray 3 (0, 0)) := (Ext.drew [] wr).keep HG.out (by simp)
      have hcp := run_copy_k (P := Tryz.prog) wr.drew 32 32 3 3 1 w.heap.size k (n - k) (n - k) ⟨w.heap.size, 0, none⟩ k n (Nat.min k (n - k)) (fil n k) 3 (List.replicate (Nat.min k (n - k)) (.int .i64 (-1))) Tryz.underlying32 size3 hgd rfl (by simp) (fun j u hu => by
        rw [List.getElem?_replicate] at hu
        split at hu
        · rename_i hj
          cases hu
          rw [Addr.add_lit, cell_of_row _ _ _ _ _ _ hgd, Nat.zero_add, List.getElem?_toArray, fil, List.getElem?_append_left (by simp; omega), List.getElem?_replicate, if_pos (by omega)]
        · cases hu) (by rw [fil_len _ _ (by omega), List.length_replicate]; omega) (fun u hu => by rw [List.eq_of_mem_replicate hu]; rfl)
      rw [fil_splice n k _ (by omega)] at hcp
      have HG2 : Hid ((wr.drew.setRow w.heap.size (fil n (k + Nat.min k (n - k))).toArray).heap[w.heap.size]? = some (.cells (fil n (k + Nat.min k (n - k))).toArray 3 (0, 0))) := by
        show _ = _
        exact setRow_heap _ _ _ _ _ _ hgd
      have HE2 : Hid (Ext [] w (wr.drew.setRow w.heap.size (fil n (k + Nat.min k (n - k))).toArray)) := (HE.out.trans (Ext.drew [] _)).on (Ext.setRow [w.heap.size] _ _ _ (by simp)) (by simp)
      generalize Nat.min k (n - k) = m at *
      clear hgd
      have hw : IntKind.i64.wrap ((k : Int) + (m : Int)) = ((k + m : Nat) : Int) := by rw [IntKind.wrap_i64]; omega
      go_wp2_with fail
      go_region_law (refine step_copy_run rfl _ _ 32 32 rfl (.slice (some ⟨w.heap.size, k, none⟩) (n - k) (n - k)) (.slice (some ⟨w.heap.size, 0, none⟩) k n) _ (by simp [Act.eval, Act.put]; omega) (by simp [Act.eval, Act.put]) hcp ?_)
      all_goals
        go_wp2_with fail
        go_roundg (n - (k + m))
        case measure => have := HMp.out; omega
        case rel => exact ⟨k + m, by first | rfl | go_num, by omega, by omega, .inr (by omega), HE2.out, HG2.out⟩
    · obtain rfl : k = n := by omega
      go_wp2_with fail
      go_ret
      refine ⟨_, rfl, Nat.le_refl _, ?_, HE.out⟩
      have := HG.out
      rwa [fil_full] at this

end Go.Proofs.YtjbbomokgpoilaaGreatDoor.Co
