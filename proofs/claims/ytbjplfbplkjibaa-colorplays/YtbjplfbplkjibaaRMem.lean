/-
  The reference's graph as it lies in memory; no statement is proved here.
-/
import Derived.Test.YtbjplfbplkjibaaShade
namespace Go.Proofs.Ytbjplfbplkjibaa
open Go.RowKit

/-! ### three lists laid into one row -/

def tri : List Value → List Value → List Value → List Value
  | a :: A, b :: B, c :: C => a :: b :: c :: tri A B C
  | _, _, _ => []
theorem tri_len : ∀ (A B C : List Value), B.length = A.length → C.length = A.length → (tri A B C).length = A.length * 3
  | [], _, _, _, _ => by simp [tri]
  | a :: A, [], _, h, _ => by simp at h
  | a :: A, b :: B, [], _, h => by simp at h
  | a :: A, b :: B, c :: C, h, k => by
    simp only [tri, List.length_cons]
    rw [tri_len A B C (by simpa using h) (by simpa using k)]; omega
theorem tri_get : ∀ (A B C : List Value) (i : Nat), B.length = A.length → C.length = A.length → i < A.length → (tri A B C)[i * 3]? = A[i]? ∧ (tri A B C)[i * 3 + 1]? = B[i]? ∧ (tri A B C)[i * 3 + 2]? = C[i]?
  | [], _, _, _, _, _, h => by simp at h
  | a :: A, [], _, _, h, _, _ => by simp at h
  | a :: A, b :: B, [], _, _, h, _ => by simp at h
  | a :: A, b :: B, c :: C, 0, _, _, _ => by simp [tri]
  | a :: A, b :: B, c :: C, i + 1, h, k, hi => by
    have := tri_get A B C i (by simpa using h) (by simpa using k) (by simpa using hi)
    simp only [tri]
    rw [show (i + 1) * 3 = i * 3 + 3 by omega]
    simpa using this
theorem tri_set0 : ∀ (A B C : List Value) (i : Nat) (x : Value), B.length = A.length → C.length = A.length → (tri A B C).set (i * 3) x = tri (A.set i x) B C
  | [], _, _, _, _, _, _ => by simp [tri]
  | a :: A, [], _, _, _, h, _ => by simp at h
  | a :: A, b :: B, [], _, _, _, h => by simp at h
  | a :: A, b :: B, c :: C, 0, _, _, _ => by simp [tri]
  | a :: A, b :: B, c :: C, i + 1, x, h, k => by
    have := tri_set0 A B C i x (by simpa using h) (by simpa using k)
    rw [show (i + 1) * 3 = i * 3 + 3 by omega]
    simp only [tri, List.set_cons_succ, ← this]
theorem tri_set1 : ∀ (A B C : List Value) (i : Nat) (x : Value), B.length = A.length → C.length = A.length → (tri A B C).set (i * 3 + 1) x = tri A (B.set i x) C
  | [], [], _, _, _, _, _ => by simp [tri]
  | [], b :: B, _, _, _, h, _ => by simp at h
  | a :: A, [], _, _, _, h, _ => by simp at h
  | a :: A, b :: B, [], _, _, _, h => by simp at h
  | a :: A, b :: B, c :: C, 0, _, _, _ => by simp [tri]
  | a :: A, b :: B, c :: C, i + 1, x, h, k => by
    have := tri_set1 A B C i x (by simpa using h) (by simpa using k)
    rw [show (i + 1) * 3 = i * 3 + 3 by omega]
    simp only [tri, List.set_cons_succ, ← this]
theorem tri_set2 : ∀ (A B C : List Value) (i : Nat) (x : Value), B.length = A.length → C.length = A.length → (tri A B C).set (i * 3 + 2) x = tri A B (C.set i x)
  | [], _, [], _, _, _, _ => by simp [tri]
  | [], _, c :: C, _, _, _, h => by simp at h
  | a :: A, [], _, _, _, h, _ => by simp at h
  | a :: A, b :: B, [], _, _, _, h => by simp at h
  | a :: A, b :: B, c :: C, 0, _, _, _ => by simp [tri]
  | a :: A, b :: B, c :: C, i + 1, x, h, k => by
    have := tri_set2 A B C i x (by simpa using h) (by simpa using k)
    rw [show (i + 1) * 3 = i * 3 + 3 by omega]
    simp only [tri, List.set_cons_succ, ← this]
theorem tri_snoc : ∀ (A B C : List Value) (a b c : Value), B.length = A.length → C.length = A.length → tri (A ++ [a]) (B ++ [b]) (C ++ [c]) = tri A B C ++ [a, b, c]
  | [], [], [], _, _, _, _, _ => rfl
  | [], b :: B, _, _, _, _, h, _ => by simp at h
  | [], [], c :: C, _, _, _, _, h => by simp at h
  | a :: A, [], _, _, _, _, h, _ => by simp at h
  | a :: A, b :: B, [], _, _, _, _, h => by simp at h
  | a :: A, b :: B, c :: C, x, y, z, h, k => by
    simp only [List.cons_append, tri]
    rw [tri_snoc A B C x y z (by simpa using h) (by simpa using k)]

/-! ### the reference's graph -/

/-- The colors of nodes as values. -/
def cols (l : List Nd) : List Value := l.map fun x => .int .i64 x.c
theorem cols_len (l : List Nd) : (cols l).length = l.length := by simp [cols]
theorem cols_get {l : List Nd} {i : Nat} (h : i < l.length) : (cols l)[i]? = some (.int .i64 (ndAt l i).c) := by simp [cols, ndAt, List.getD, h]
theorem cols_set (l : List Nd) (i : Nat) (x : Nd) : cols (l.set i x) = (cols l).set i (.int .i64 x.c) := by simp [cols, List.map_set]
def kvAt (l : List Value) (i : Nat) : Value := l.getD i (.int .i64 0)
theorem kvAt_get {l : List Value} {i : Nat} (h : i < l.length) : l[i]? = some (kvAt l i) := by simp [kvAt, List.getD, h]
theorem kvAt_set {l : List Value} {i j : Nat} {x : Value} (h : i < l.length) : kvAt (l.set i x) j = if j = i then x else kvAt l j := by
  by_cases e : j = i
  · subst e; simp [kvAt, List.getD, h]
  · rw [if_neg e]; simp [kvAt, List.getD, List.getElem?_set_ne (Ne.symm e)]

/-- A list of numbers in a row of its own, with or without room. -/
def Lo (w : World) (v : Value) (s : List Int) : Prop := w.ownsRow 0 3 1 v s.length (s.map (Value.int .i64))

structure Rm (w : World) (p : Nat) (vn vl : Value) (KV SV : List Value) (G : Gs) : Prop where
  blk : w.heap[p]? = some (.cells #[vn, vl, .int .i64 G.ph, .int .i64 G.pl, .int .i64 G.en, .int .i64 G.cy] 30 (0, 0))
  row : w.ownsRow 0 69 3 vn G.ns.length (tri (cols G.ns) KV SV)
  lin : Qu w vl G.ln
  kvl : KV.length = G.ns.length
  svl : SV.length = G.ns.length
  kvo : ∀ i, i < G.ns.length → ∃ q : Nat, kvAt KV i = .int .i64 q ∧ ((ndAt G.ns i).c ≠ 4 → q = (ndAt G.ns i).k)
  slo : ∀ i, i < G.ns.length → ∃ s, Lo w (svAt SV i) s ∧ ((ndAt G.ns i).c ≠ 4 → s = (ndAt G.ns i).s)
  sep : ∀ i j, i ≠ j → ∀ g, (svAt SV i).ownBlock = some g → (svAt SV j).ownBlock ≠ some g
  sel : ∀ i g, (svAt SV i).ownBlock = some g → vl.ownBlock ≠ some g

def Rg (w : World) (p : Nat) (G : Gs) (B : Nat → Prop) : Prop := ∃ vn vl KV SV, Rm w p vn vl KV SV G ∧ Ft B p vn vl SV

theorem Rm.slAll {w : World} {p : Nat} {vn vl : Value} {KV SV : List Value} {G : Gs} (h : Rm w p vn vl KV SV G) (i : Nat) : ∃ s, Lo w (svAt SV i) s ∧ ((ndAt G.ns i).c ≠ 4 → s = (ndAt G.ns i).s) := by
  by_cases q : i < G.ns.length
  · exact h.slo i q
  · refine ⟨[], ?_, fun _ => by rw [ndAt_out (by omega)]; rfl⟩
    rw [svAt_out (by rw [h.svl]; omega)]; exact own_nil _ _ _ _
theorem Rm.keep {B C : Nat → Prop} {w w' : World} {p : Nat} {vn vl : Value} {KV SV : List Value} {G : Gs} (h : Rm w p vn vl KV SV G) (f : Ft B p vn vl SV) (x : Fx C w w') (hd : ∀ k, B k → ¬ C k) : Rm w' p vn vl KV SV G :=
  ⟨x.keep h.blk (hd _ f.p), own_keepF h.row x (fun g hg => hd _ (f.n g hg)), h.lin.keep x (fun g hg => hd _ (f.l g hg)), h.kvl, h.svl, h.kvo, fun i hi => by
    obtain ⟨s, h1, h2⟩ := h.slo i hi
    exact ⟨s, own_keepF h1 x (fun g hg => hd _ (f.s i g hg)), h2⟩, h.sep, h.sel⟩
theorem Rg.keep {B C : Nat → Prop} {w w' : World} {p : Nat} {G : Gs} (h : Rg w p G B) (x : Fx C w w') (hd : ∀ k, B k → ¬ C k) : Rg w' p G B := by
  obtain ⟨vn, vl, KV, SV, h1, h2⟩ := h
  exact ⟨vn, vl, KV, SV, h1.keep h2 x hd, h2⟩
theorem Rg.keep0 {B : Nat → Prop} {w w' : World} {p : Nat} {G : Gs} (h : Rg w p G B) (x : Ext [] w w') : Rg w' p G B := h.keep (C := fun _ => False) (Fx.of_ext0 x) (fun _ _ q => q)
theorem Rm.keepE {w w' : World} {p : Nat} {vn vl : Value} {KV SV : List Value} {G : Gs} (h : Rm w p vn vl KV SV G) (x : Ext [] w w') : Rm w' p vn vl KV SV G := h.keep (B := fun _ => True) (C := fun _ => False) ⟨trivial, fun _ _ => trivial, fun _ _ => trivial, fun _ _ _ => trivial⟩ (Fx.of_ext0 x) (fun _ _ q => q)
theorem Rg.mono {B C : Nat → Prop} {w : World} {p : Nat} {G : Gs} (h : Rg w p G B) (hm : ∀ k, B k → C k) : Rg w p G C := by
  obtain ⟨vn, vl, KV, SV, h1, h2⟩ := h
  exact ⟨vn, vl, KV, SV, h1, h2.mono hm⟩
theorem Rg.there {B : Nat → Prop} {w : World} {p : Nat} {G : Gs} (h : Rg w p G B) : Rg w p G (fun k => B k ∧ k < w.heap.size) := by
  obtain ⟨vn, vl, KV, SV, h1, h2⟩ := h
  exact ⟨vn, vl, KV, SV, h1, ⟨h2.p, lt_of_heap h1.blk⟩, fun g hg => ⟨h2.n g hg, (own_lt h1.row g hg).2⟩, fun g hg => ⟨h2.l g hg, h1.lin.lt g hg⟩, fun i g hg => by
    obtain ⟨s, hs, _⟩ := h1.slAll i
    exact ⟨h2.s i g hg, (own_lt hs g hg).2⟩⟩

theorem Rm.np {w : World} {p : Nat} {vn vl : Value} {KV SV : List Value} {G : Gs} (h : Rm w p vn vl KV SV G) : vn.ownBlock ≠ some p := fun q => by
  obtain ⟨cur, hc⟩ := own_at h.row q
  exact row_ne hc h.blk (by decide) rfl
theorem Rm.lp {w : World} {p : Nat} {vn vl : Value} {KV SV : List Value} {G : Gs} (h : Rm w p vn vl KV SV G) : vl.ownBlock ≠ some p := fun q => by
  obtain ⟨cur, hc⟩ := h.lin.row p q
  exact row_ne hc h.blk (by decide) rfl
theorem Rm.sp {w : World} {p : Nat} {vn vl : Value} {KV SV : List Value} {G : Gs} (h : Rm w p vn vl KV SV G) (i : Nat) : (svAt SV i).ownBlock ≠ some p := fun q => by
  obtain ⟨s, hs, _⟩ := h.slAll i
  obtain ⟨cur, hc⟩ := own_at hs q
  exact row_ne hc h.blk (by decide) rfl
theorem Rm.nl {w : World} {p : Nat} {vn vl : Value} {KV SV : List Value} {G : Gs} (h : Rm w p vn vl KV SV G) : ∀ g, vn.ownBlock = some g → vl.ownBlock ≠ some g := fun g hg q => by
  obtain ⟨cur, hc⟩ := h.lin.row g q
  obtain ⟨cur', hc'⟩ := own_at h.row hg
  exact row_ne hc hc' (by decide) rfl
theorem Rm.nsl {w : World} {p : Nat} {vn vl : Value} {KV SV : List Value} {G : Gs} (h : Rm w p vn vl KV SV G) : ∀ g, vn.ownBlock = some g → ∀ i, (svAt SV i).ownBlock ≠ some g := fun g hg i q => by
  obtain ⟨s, hs, _⟩ := h.slAll i
  obtain ⟨cur, hc⟩ := own_at hs q
  obtain ⟨cur', hc'⟩ := own_at h.row hg
  exact row_ne hc hc' (by decide) rfl

/-- A cell of the graph's own block is another. -/
theorem Rm.fld {w : World} {p : Nat} {vn vl : Value} {KV SV : List Value} {G : Gs} (h : Rm w p vn vl KV SV G) (o : Nat) (x : Value) (G' : Gs) (h1 : G'.ns = G.ns) (h2 : G'.ln = G.ln)
    (hc : (#[vn, vl, .int .i64 G.ph, .int .i64 G.pl, .int .i64 G.en, .int .i64 G.cy] : Array Value).setIfInBounds o x = #[vn, vl, .int .i64 G'.ph, .int .i64 G'.pl, .int .i64 G'.en, .int .i64 G'.cy]) :
    Rm (w.setCell ⟨p, o, none⟩ x) p vn vl KV SV G' := by
  have hE : Fx (fun k => k = p) w (w.setCell ⟨p, o, none⟩ x) := Fx.of_ext (Ext.setCell [p] w _ _ (by simp)) (by simp)
  refine ⟨by rw [heap_setCell_same _ _ _ _ _ _ h.blk, hc], ?_, ?_, by rw [h1]; exact h.kvl, by rw [h1]; exact h.svl, by rw [h1]; exact h.kvo, ?_, h.sep, h.sel⟩
  · rw [h1]; exact own_keepF h.row hE (fun g hg e => h.np (e ▸ hg))
  · rw [h2]; exact h.lin.keep hE (fun g hg e => h.lp (e ▸ hg))
  · rw [h1]
    intro i hi
    obtain ⟨s, hs, h3⟩ := h.slo i hi
    exact ⟨s, own_keepF hs hE (fun g hg e => h.sp i (e ▸ hg)), h3⟩

/-- The nodes' row is another, the slots stay. -/
theorem Rm.cells {w w2 : World} {p : Nat} {vl : Value} {KV KV' SV : List Value} {G : Gs} {g c : Nat} (h : Rm w p (.slice (some ⟨g, 0, none⟩) G.ns.length c) vl KV SV G) (hE : Ext [g] w w2) (l : List Nd) (hl : l.length = G.ns.length) (hk : KV'.length = G.ns.length)
    (hr : w2.ownsRow 0 69 3 (.slice (some ⟨g, 0, none⟩) G.ns.length c) G.ns.length (tri (cols l) KV' SV))
    (hko : ∀ i, i < G.ns.length → ∃ q : Nat, kvAt KV' i = .int .i64 q ∧ ((ndAt l i).c ≠ 4 → q = (ndAt l i).k))
    (hso : ∀ i, i < G.ns.length → (ndAt l i).c ≠ 4 → (ndAt G.ns i).c ≠ 4 ∧ (ndAt l i).s = (ndAt G.ns i).s) :
    Rm w2 p (.slice (some ⟨g, 0, none⟩) G.ns.length c) vl KV' SV { G with ns := l } := by
  have hF : Fx (fun k => k = g) w w2 := Fx.of_ext hE (by simp)
  refine ⟨hF.keep h.blk (fun e => h.np (by simp [Value.ownBlock, e])), by simp only [hl]; exact hr, h.lin.keep hF (fun k hk e => h.nl g rfl (e ▸ hk)), by rw [hl]; exact hk, by rw [hl]; exact h.svl, fun i hi => hko i (by simpa [hl] using hi), fun i hi => ?_, h.sep, h.sel⟩
  simp only [hl] at hi
  obtain ⟨s, hs, h3⟩ := h.slo i hi
  exact ⟨s, own_keepF hs hF (fun k hk e => h.nsl g rfl i (e ▸ hk)), fun hc => by
    obtain ⟨h4, h5⟩ := hso i hi hc
    rw [h5]; exact h3 h4⟩

/-- A slot is another. -/
theorem Rm.slot {w : World} {p : Nat} {vn vl : Value} {KV SV : List Value} {G : Gs} (h : Rm w p vn vl KV SV G) (i j : Nat) (x : Int) (hi : i < G.ns.length) (hc4 : (ndAt G.ns i).c ≠ 4) {g : Nat} (hg : (svAt SV i).ownBlock = some g) :
    Rm (w.setCell ⟨g, j, none⟩ (.int .i64 x)) p vn vl KV SV { G with ns := G.ns.set i ⟨(ndAt G.ns i).c, (ndAt G.ns i).s.set j x, (ndAt G.ns i).k⟩ } := by
  have hE : Fx (fun k => k = g) w (w.setCell ⟨g, j, none⟩ (.int .i64 x)) := Fx.of_ext (Ext.setCell [g] w _ _ (by simp)) (by simp)
  have hcol : cols (G.ns.set i ⟨(ndAt G.ns i).c, (ndAt G.ns i).s.set j x, (ndAt G.ns i).k⟩) = cols G.ns := by
    rw [cols_set]
    refine set_self ?_
    rw [cols_get hi]
  refine ⟨hE.keep h.blk (fun e => h.sp i (by rw [hg, e])), ?_, h.lin.keep hE (fun k hk e => h.sel i g hg (e ▸ hk)), by simpa using h.kvl, by simpa using h.svl, fun k hk => ?_, fun k hk => ?_, h.sep, h.sel⟩
  · have hr := own_keepF h.row hE (fun k hk e => h.nsl k hk i (by rw [hg, e]))
    simp only [List.length_set]
    rw [hcol]; exact hr
  · simp only [List.length_set] at hk
    obtain ⟨q, h1, h2⟩ := h.kvo k hk
    refine ⟨q, h1, ?_⟩
    simp only
    rw [ndAt_set hi]
    split
    · rename_i e; subst e; exact h2
    · exact h2
  · simp only [List.length_set] at hk
    simp only
    obtain ⟨s, hs, h3⟩ := h.slo k hk
    rw [ndAt_set hi]
    split
    · rename_i e
      subst e
      refine ⟨s.set j x, ?_, fun _ => by rw [h3 hc4]⟩
      obtain ⟨a', c', e', _⟩ := own_slice hs
      rcases hs.2 with ⟨q, _⟩ | ⟨g', cap, cur, q, h4⟩
      · rw [q] at hg; simp [Value.ownBlock] at hg
      · have hgg : g' = g := by rw [q] at hg; simpa [Value.ownBlock] using hg
        subst hgg
        rw [q] at hs ⊢
        have := (hs.stored j (.int .i64 x)).1
        unfold Lo
        rw [List.length_set, List.map_set]
        exact this
    · rename_i e
      exact ⟨s, own_keepF hs hE (fun q hq r => h.sep i k (Ne.symm e) g hg (r ▸ hq)), h3⟩

/-- The line is another. -/
theorem Rm.line {w w2 : World} {p : Nat} {vn vl vl' : Value} {KV SV : List Value} {G : Gs} (h : Rm w p vn vl KV SV G) (hE : Ext vl.ownBlock.toList w w2) (l : List Nat) (hq : Qu w2 vl' l) (hv : vl'.ownBlock = vl.ownBlock ∨ ∀ g, vl'.ownBlock = some g → w.heap.size ≤ g) :
    Rm (w2.setCell ⟨p, 1, none⟩ vl') p vn vl' KV SV { G with ln := l } := by
  have hF : Fx (fun k => vl.ownBlock = some k) w w2 := Fx.of_ext hE (fun x hx => .inl (by simpa using hx))
  have hE2 : Fx (fun k => k = p) w2 (w2.setCell ⟨p, 1, none⟩ vl') := Fx.of_ext (Ext.setCell [p] w2 _ _ (by simp)) (by simp)
  have hb2 := hF.keep h.blk h.lp
  have hps := lt_of_heap h.blk
  refine ⟨by rw [heap_setCell_same _ _ _ _ _ _ hb2]; rfl, ?_, ?_, h.kvl, h.svl, h.kvo, fun i hi => ?_, h.sep, fun i g hg => ?_⟩
  · exact own_keepF (own_keepF h.row hF (fun g hg => h.nl g hg)) hE2 (fun g hg e => h.np (e ▸ hg))
  · refine hq.keep hE2 (fun g hg e => ?_)
    subst e
    rcases hv with q | q
    · exact h.lp (q ▸ hg)
    · have := q _ hg; omega
  · obtain ⟨s, hs, h3⟩ := h.slo i hi
    exact ⟨s, own_keepF (own_keepF hs hF (fun g hg => h.sel i g hg)) hE2 (fun g hg e => h.sp i (e ▸ hg)), h3⟩
  · rcases hv with q | q
    · rw [q]; exact h.sel i g hg
    · intro r
      obtain ⟨s, hs, _⟩ := h.slAll i
      have := q _ r; have := (own_lt hs g hg).2; omega

/-- What a walk reads of a node. -/
theorem Rm.node {w : World} {p : Nat} {vn vl : Value} {KV SV : List Value} {G : Gs} (h : Rm w p vn vl KV SV G) {i : Nat} (hi : i < G.ns.length) : ∃ g c, vn = .slice (some ⟨g, 0, none⟩) G.ns.length c ∧ G.ns.length ≤ c ∧ g ≠ p ∧ g < w.heap.size ∧
    w.cell? ⟨g, i * 3, none⟩ = some (.int .i64 (ndAt G.ns i).c) ∧ w.cell? ⟨g, i * 3 + 1, none⟩ = some (kvAt KV i) ∧ w.cell? ⟨g, i * 3 + 2, none⟩ = some (svAt SV i) ∧ ∀ j, w.frozen? ⟨g, j, none⟩ = false := by
  obtain ⟨g, c, rfl, _⟩ := h.row.form (by omega)
  obtain ⟨a', c', e, hc⟩ := own_slice h.row
  simp only [Value.slice.injEq] at e
  obtain ⟨_, _, rfl⟩ := e
  obtain ⟨g0, g1, g2⟩ := tri_get (cols G.ns) KV SV i (by rw [cols_len]; exact h.kvl) (by rw [cols_len]; exact h.svl) (by rw [cols_len]; exact hi)
  exact ⟨g, c, rfl, hc, fun e => h.np (by simp [Value.ownBlock, e]), (own_lt h.row g rfl).2, by rw [h.row.cellAt _ (by omega), g0, cols_get hi], by rw [h.row.cellAt _ (by omega), g1, kvAt_get (by rw [h.kvl]; exact hi)], by rw [h.row.cellAt _ (by omega), g2, svAt_get (by rw [h.svl]; exact hi)], fun j => h.row.frozenAt j⟩
theorem Rm.flds {w : World} {p : Nat} {vn vl : Value} {KV SV : List Value} {G : Gs} (h : Rm w p vn vl KV SV G) : w.cell? ⟨p, 0, none⟩ = some vn ∧ w.cell? ⟨p, 1, none⟩ = some vl ∧ w.cell? ⟨p, 2, none⟩ = some (.int .i64 G.ph) ∧ w.cell? ⟨p, 3, none⟩ = some (.int .i64 G.pl) ∧ w.cell? ⟨p, 4, none⟩ = some (.int .i64 G.en) ∧ w.cell? ⟨p, 5, none⟩ = some (.int .i64 G.cy) := by
  simp only [cell_of_row _ _ _ _ _ _ h.blk]
  exact ⟨rfl, rfl, rfl, rfl, rfl, rfl⟩
theorem Rm.froz {w : World} {p : Nat} {vn vl : Value} {KV SV : List Value} {G : Gs} (h : Rm w p vn vl KV SV G) (j : Nat) : w.frozen? ⟨p, j, none⟩ = false := frozen_of_row _ _ _ _ _ h.blk

end Go.Proofs.Ytbjplfbplkjibaa
