/-
  What a loop does that collects what comes in a list; no statement is proved here.
-/
import Derived.Test.YtlajjcboahflbaaDoorHoles
namespace Go.Proofs.YtlajjcboahflbaaDoor
open Go.RowKit Go.Shelf

theorem eqlf (t : TypeId) (ht : t = 64 ∨ t = 80 ∨ t = 83) (w : World) (f : Fn) (a b : Array Value) : (binOp .eql t (.func f a b) .nilFunc).run Tryd.prog w = .ok (.bool false) w := by
  have h : ∀ d, (Op.equalIn (d + 1) t (.func f a b) .nilFunc).run Tryd.prog w = .ok false w := fun d => by
    rcases ht with rfl | rfl | rfl
    · simp [Op.equalIn, run_underlying Tryd.underlying64]
    · simp [Op.equalIn, run_underlying Tryd.underlying80]
    · simp [Op.equalIn, run_underlying Tryd.underlying83]
  simp only [binOp]
  simp [Op.equal, Op.maxDepth, h 9999]

theorem ownFrom_ext {β : Type} {b : Nat} {W0 : World} : OwnFrom W0.heap.size (fun (_ : β) W => Ext [b] W0 W) := fun _ X Y row hs hg hr => by
  have hx := Ext.grown (S := row.toList) hg (fun k hk => by simp [hk])
  refine ⟨hx.os.trans hs.os, hx.tape.trans hs.tape, hx.output.trans hs.output, Nat.le_trans hs.size hx.size, fun k hk hkb => ?_⟩
  rw [hg.block k (by have := hs.size; omega) (fun e => ?_), hs.block k hk hkb]
  have := (hr k e.symm).1
  omega

/-- A list in the box b, grown since W0. -/
structure Cll {α : Type} (b : Nat) (t e : TypeId) (s : Nat) (f : α → List Value) (W0 : World) (pre : List α) (W : World) : Prop where
  has : ∃ v, Boxed W b t v ∧ W.ownsRow W0.heap.size e s v pre.length (pre.flatMap f) ∧ True
  ext : Ext [b] W0 W
theorem cl_own {α : Type} {b : Nat} {t e : TypeId} {s : Nat} {f : α → List Value} {W0 : World} : OwnFrom W0.heap.size (Cll b t e s f W0) := fun pre X Y row hs hg hr =>
  ⟨(Own.from (holdsRow_own W0.heap.size b t e s (fun pre : List α => pre.length) (fun pre => pre.flatMap f) (fun _ _ => True)) _) pre X Y row hs.has hg hr, ownFrom_ext (β := List α) pre X Y row hs.ext hg hr⟩
theorem Cll.alloc {α : Type} {b : Nat} {t e : TypeId} {s : Nat} {f : α → List Value} {W0 : World} {pre : List α} {W : World} (h : Cll b t e s f W0 pre W) (o : Obj) : Cll b t e s f W0 pre (W.alloc o) := cl_own.alloc _ h
theorem Cll.start {α : Type} {b : Nat} {t e : TypeId} {s : Nat} {f : α → List Value} {W0 : World} (h : Boxed W0 b t (.slice none 0 0)) : Cll b t e s f W0 [] W0 := ⟨⟨_, h, own_nil _ _ _ _, trivial⟩, Ext.refl _ _⟩

/-- One more. -/
structure CStep {α : Type} (b : Nat) (t e : TypeId) (s : Nat) (f : α → List Value) (W0 : World) (pre : List α) (W W' : World) : Prop where
  cl : Cll b t e s f W0 pre W'
  keeps : KeepsOthers W W'
  same : ∀ k, k < W0.heap.size → k ≠ b → W'.heap[k]? = W.heap[k]?
  typed : ∀ (k : Nat) (c : Array Value) (t' : TypeId) (m : Nat × Nat), W.heap[k]? = some (.cells c t' m) → t' ≠ t → t' ≠ e → W'.heap[k]? = some (.cells c t' m)

theorem coll_step {α : Type} {b : Nat} {t e : TypeId} {s : Nat} {f : α → List Value} {W0 W w1 : World} {pre : List α} {x : α} {v v' : Value} {tmp : Obj}
    (hte : t ≠ e) (hv : Boxed W b t v) (hrow : W.ownsRow W0.heap.size e s v pre.length (pre.flatMap f)) (hE : Ext [b] W0 W) (hb : b < W0.heap.size)
    (hown' : w1.ownsRow W0.heap.size e s v' (pre.length + 1) (pre.flatMap f ++ f x)) (hgrow : (W.alloc tmp).grownBy w1 v.ownBlock) :
    Boxed w1 b t v ∧ Boxed (w1.setCell ⟨b, 0, none⟩ v') b t v' ∧ CStep b t e s f W0 (pre ++ [x]) W (w1.setCell ⟨b, 0, none⟩ v') := by
  have hv1 : Boxed w1 b t v := (hv.alloc tmp).kept hgrow (hv.not_row hte hrow)
  have hx1 := Ext.alloc [] W tmp
  have hx2 := ext_grown hgrow
  have hx3 := Ext.setCell [b] w1 ⟨b, 0, none⟩ v' (by simp)
  have hcells : ∀ k ∈ v.ownBlock.toList, ∃ cs, W.heap[k]? = some (.cells cs e (0, 0)) := fun k hk => by
    rw [Option.mem_toList] at hk
    rcases hrow.2 with ⟨q, _⟩ | ⟨g, cap, cur, q, _, hg, _⟩
    · rw [q] at hk; simp [Value.ownBlock] at hk
    · rw [q] at hk; simp [Value.ownBlock] at hk; subst hk; exact ⟨_, hg⟩
  have hlow : ∀ k, k < W0.heap.size → k ∉ v.ownBlock.toList := fun k hk hm => by
    rw [Option.mem_toList] at hm
    have := (own_lt hrow k hm).1
    omega
  have hz1 := hx1.size
  have hz2 := hx2.size
  have hz0 := hE.size
  refine ⟨hv1, hv1.set v', ⟨⟨_, hv1.set v', ?_, trivial⟩, ?_⟩, ?_, ?_, ?_⟩
  · rw [List.length_append, List.flatMap_append]
    simp only [List.length_cons, List.length_nil, Nat.zero_add, List.flatMap_cons, List.flatMap_nil, List.append_nil]
    exact hown'.kept (grownBy_setCell' w1 b v') (.inr (hv1.not_row hte hown').symm)
  · refine ⟨hx3.os.trans (hx2.os.trans (hx1.os.trans hE.os)), hx3.tape.trans (hx2.tape.trans (hx1.tape.trans hE.tape)), hx3.output.trans (hx2.output.trans (hx1.output.trans hE.output)), by have := hx3.size; omega, fun k hk hkb => ?_⟩
    rw [hx3.block k (by omega) hkb, hx2.block k (by omega) (hlow k hk), hx1.block k (by omega) (by simp), hE.block k hk hkb]
  · refine (KeepsOthers.alloc W tmp).trans ((keepsOthers_of_ext hx2 (fun k hk _ => ?_)).trans (KeepsOthers.setCell _ _ _))
    obtain ⟨cs, hc⟩ := hcells k hk
    exact ⟨_, _, _, hx1.keep hc (by simp)⟩
  · intro k hk hkb
    rw [hx3.block k (by omega) (by simpa using hkb), hx2.block k (by omega) (hlow k hk), hx1.block k (by omega) (by simp)]
  · intro k c t' m hk h1 h2
    have hkb : k ≠ b := fun h => by subst h; rw [show W.heap[k]? = _ from hv] at hk; cases hk; exact h1 rfl
    have hko : k ∉ v.ownBlock.toList := fun h => by obtain ⟨cs, hc⟩ := hcells k h; rw [hc] at hk; cases hk; exact h2 rfl
    exact hx3.keep (hx2.keep (hx1.keep hk (by simp)) hko) (by simpa using hkb)

theorem results_cells4 {P : Program} {fn : Func} {p1 p2 p3 p4 : Tmp} {t1 t2 t3 t4 : TypeId} (h : fn.results = #[.cell p1 t1, .cell p2 t2, .cell p3 t3, .cell p4 t4]) (tmps : Array Value) (w : World) (a1 a2 a3 a4 : Addr) (v1 v2 v3 v4 : Value)
    (h1 : tmps.getD p1 undef = .pointer (some a1)) (h2 : tmps.getD p2 undef = .pointer (some a2)) (h3 : tmps.getD p3 undef = .pointer (some a3)) (h4 : tmps.getD p4 undef = .pointer (some a4))
    (l1 : (loadVar t1 a1).run P w = .ok v1 w) (l2 : (loadVar t2 a2).run P w = .ok v2 w) (l3 : (loadVar t3 a3).run P w = .ok v3 w) (l4 : (loadVar t4 a4).run P w = .ok v4 w) : (results fn tmps).run P w = .ok (.tuple #[v1, v2, v3, v4]) w := by
  have h1' : tmps[p1]?.getD undef = .pointer (some a1) := by simpa using h1
  have h2' : tmps[p2]?.getD undef = .pointer (some a2) := by simpa using h2
  have h3' : tmps[p3]?.getD undef = .pointer (some a3) := by simpa using h3
  have h4' : tmps[p4]?.getD undef = .pointer (some a4) := by simpa using h4
  simp [results, h, h1', h2', h3', h4', asAddr, l1, l2, l3, l4]

/-! ### marks that a function leaves behind -/
def mkD (D : Nat) : Deferred := { target := .collected D, args := #[] }
def Marks (Ds : List Nat) (W : World) : Prop := ∀ D ∈ Ds, W.heap[D]? = some (.deferred (some []))
theorem leaves_marks {F : Fence} {n : Nat} {P : Program} {fn : Func} {tmps : Array Value} {R : Ending → World → Prop} : ∀ (Ds : List Nat) (W : World), Marks Ds W → Ds.Nodup →
    (∀ W', Ext Ds W W' → ∃ v, (results fn tmps).run P W' = .ok v W' ∧ R (.returned v) W') → LeavesInM F n P fn tmps R (Ds.map mkD) .returning W
  | [], W, _, _, h => by
    obtain ⟨v, h1, h2⟩ := h W (Ext.refl _ _)
    exact ⟨v, h1, h2⟩
  | D :: Ds, W, hM, hN, h => by
    have hD := hM D (by simp)
    refine ⟨by simp, .inl ⟨_, _, rfl, run_takeDeferred hD, leaves_marks Ds _ ?_ (List.nodup_cons.1 hN).2 ?_⟩⟩
    · intro D' h'
      refine (World.putObj_heap_other ?_).trans (hM D' (by simp [h']))
      rintro rfl
      exact (List.nodup_cons.1 hN).1 h'
    · intro W' hX
      refine h W' ?_
      exact (Ext.grown (S := D :: Ds) (grownBy_putObj' W D (.deferred none)) (by simp)).trans (hX.mono (by simp; intro a ha; exact .inr ha))

end Go.Proofs.YtlajjcboahflbaaDoor
