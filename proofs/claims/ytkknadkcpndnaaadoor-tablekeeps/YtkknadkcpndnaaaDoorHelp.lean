/-
  Small matters of loops over iterators; no statement is proved here.
-/
import Derived.Test.YtkknadkcpndnaaaDoorNear
import Derived.Test.YtkknadkcpndnaaaDoorTMath
import Derived.Test.YtkknadkcpndnaaaDoorHeldR
import Derived.Scope
namespace Go.Proofs.YtkknadkcpndnaaaDoor
open Go.RowKit Go.Shelf
open Pr (Gp sq pl)

theorem run_store_func (P : Program) (w : World) (a : Addr) (f : Fn) (x y : Array Value) (m : Mode) : (store a (.func f x y) m).run P w = stored P w a (.func f x y) m := run_store P w a _ m rfl

def penc (p : Nat × Nat) : Array Value := #[.int .i64 (p.1 : Nat), .int .i64 (p.2 : Nat)]
theorem mines_new {β : Type} {O : World → Nat → Prop} {J : β → World → Prop} {B : Nat} (c : Cal O J B) {s : β} {L : List (Nat × Obj)} {W : World} (hJ : J s W) (h : Mines O L W) (o : Obj) (ho : o.isCells = true) : J s (W.alloc o) ∧ Mines O ((W.heap.size, o) :: L) (W.alloc o) :=
  ⟨c.own.alloc o hJ, Mines.cons (Mine.new c hJ o ho) (h.stp c hJ (stp_alloc B W o))⟩
theorem wd_obj {A B : World} {b o : Nat} {T : List Nat} {R : Obj} (h : Wd A (some ⟨b, o, none⟩) T) (hA : A.heap[b]? = some R) (hB : B.heap[b]? = some R) : Wd B (some ⟨b, o, none⟩) T := by
  rcases h with h | ⟨b', o', e, hc⟩
  · exact .inl h
  · cases e
    exact .inr ⟨b, o, rfl, fun j hj => by rw [← hc j hj]; exact World.cell?_of_block (hB.trans hA.symm)⟩
theorem tb_obj {A B : World} {R : Obj} (h : Tb A) (hA : A.heap[0]? = some R) (hB : B.heap[0]? = some R) : Tb B := fun j hj => by
  rw [← h j hj]; exact World.cell?_of_block (hB.trans hA.symm)
theorem wide_fn (f : Nat) : Fence.wide.fn f = True := eq_true trivial
theorem wide_depth : Fence.wide.depth = none := rfl
theorem mt_lt256 (c h : Nat) : mt c h < 256 := mk_lt _ 8
theorem yield_any {m n : Nat} {P : Program} {l l' : Nat} {args : Array Value} {W : World} {R : Ending → World → Prop} (h : YieldAt Fence.wide n P l args W R) : YieldAt (Fence.wide.inRound l') m P l args W R := by
  obtain ⟨fn, t, a, b, hy, h1, h2⟩ := h
  exact ⟨fn, t, a, b, hy, h1, fun c cs _ => h2 c cs (room_wide _)⟩


/-! ### a region that draws, in a function's own body -/
/-- Q, and no panic. -/
def noP (Q : Exit → Act → World → Prop) : Exit → Act → World → Prop
  | .panic _, _, _ => False
  | .normal, a, w => Q .normal a w
  | .ret, a, w => Q .ret a w
  | .exit id, a, w => Q (.exit id) a w
  | .goto t, a, w => Q (.goto t) a w
  | .outgrown, a, w => Q .outgrown a w
theorem noP_imp {Q : Exit → Act → World → Prop} : ∀ e a w, noP Q e a w → Q e a w
  | .panic _, _, _, h => h.elim
  | .normal, _, _, h => h
  | .ret, _, _, h => h
  | .exit _, _, _, h => h
  | .goto _, _, _, h => h
  | .outgrown, _, _, h => h
theorem wpIn_region_heldP {F : Fence} {n : Nat} {P : Program} {Q : Exit → Act → World → Prop} {id : Nat} {a : Act} {w : World} {l : List Oper} (S : World → Prop) (t : Nat) (hm : P.follows .mixedOrders = true)
    (h : wpAnyC F n P .any l.toArray (noP Q) S t l.length (Array.replicate l.length false) a w.drew) : (Code.region id l.toArray true).wpIn F n P Q a w :=
  Code.wpIn_mono noP_imp (wpIn_region_heldC S t hm h)
theorem wpAnyC_doneP {F : Fence} {n : Nat} {P : Program} {ops : Array Oper} {Q : Exit → Act → World → Prop} {md : Region.Mode} {S : World → Prop} {t fuel : Nat} {listed : Array Bool} {a : Act} {w : World} (hr : (Region.ready md ops listed).isEmpty = true) (h : Q .normal a w) : wpAnyC F n P md ops (noP Q) S t fuel listed a w :=
  wpAnyC_done hr h
/-! ### loops of N rounds, and marks that a function leaves behind -/
theorem wpIn_loop_n {F : Fence} {n : Nat} {P : Program} {C : Code} {Q : Exit → Act → World → Prop} {a : Act} {w : World} (N : Nat) (I : Nat → Act → World → Prop) (h0 : I 0 a w) (hs : ∀ r a w, r < N → I r a w → C.wpIn F n P (Exit.then (I (r + 1)) Q) a w) (he : ∀ a w, I N a w → C.wpIn F n P (Exit.then (fun _ _ => False) Q) a w) : (Code.loop C).wpIn F n P Q a w := by
  refine wpIn_loop_rounds (N + 1) ?_
  have key : ∀ k r, r + k = N → ∀ a w, I r a w → Code.roundsIn F n P C Q (k + 1) a w := by
    intro k
    induction k with
    | zero => intro r hr a w h; rw [Nat.add_zero] at hr; subst hr; exact Code.wpIn_mono (fun e a w q => by cases e <;> first | exact q.elim | exact q) (he a w h)
    | succ k ih => intro r hr a w h; exact Code.wpIn_mono (fun e a w q => by cases e <;> first | exact ih (r + 1) (by omega) _ _ q | exact q) (hs r a w (by omega) h)
  exact key N 0 (by omega) a w h0
def mkD (D : Nat) : Deferred := { target := .collected D, args := #[] }
def Marks (Ds : List Nat) (W : World) : Prop := ∀ D ∈ Ds, W.heap[D]? = some (.deferred (some []))
theorem leaves_marks {F : Fence} {n : Nat} {P : Program} {fn : Func} {tmps : Array Value} {R : Ending → World → Prop} : ∀ (Ds : List Nat) (W : World), Marks Ds W → Ds.Nodup →
    (∀ W', Ext Ds W W' → (∀ D ∈ Ds, W'.heap[D]? = some (.deferred none)) → ∃ v, (results fn tmps).run P W' = .ok v W' ∧ R (.returned v) W') → LeavesInM F n P fn tmps R (Ds.map mkD) .returning W
  | [], W, _, _, h => by
    obtain ⟨v, h1, h2⟩ := h W (Ext.refl _ _) (by simp)
    exact ⟨v, h1, h2⟩
  | D :: Ds, W, hM, hN, h => by
    have hD := hM D (by simp)
    refine ⟨by simp, .inl ⟨_, _, rfl, run_takeDeferred hD, leaves_marks Ds _ ?_ (List.nodup_cons.1 hN).2 ?_⟩⟩
    · intro D' h'
      refine (World.putObj_heap_other ?_).trans (hM D' (by simp [h']))
      rintro rfl
      exact (List.nodup_cons.1 hN).1 h'
    · intro W' hX hD'
      refine h W' ?_ ?_
      · exact (Ext.grown (S := D :: Ds) (grownBy_putObj' W D (.deferred none)) (by simp)).trans (hX.mono (by simp; intro a ha; exact .inr ha))
      · intro E hE
        rcases List.mem_cons.1 hE with rfl | q
        · exact hX.keep (World.putObj_heap_same (lt_of_heap hD)) (List.nodup_cons.1 hN).1
        · exact hD' E q
/-- What stays where blocks that are no cells are shut. -/
theorem own_marks {β : Type} {B : Nat} {J : β → World → Prop} (hJ : OwnFrom B J) {s : β} : ∀ (Ds : List Nat) (W W' : World), Marks Ds W → (∀ D ∈ Ds, B ≤ D) → Ext Ds W W' → Ds.Nodup → J s W → (∀ D ∈ Ds, W'.heap[D]? = some (.deferred none)) → J s W' := by
  intro Ds
  induction Ds with
  | nil => intro W W' _ _ x _ h _; exact hJ s W W' none h ⟨x.os, x.tape, x.output, x.size, fun k hk _ => x.block k hk (by simp)⟩ (fun _ e => by cases e)
  | cons D Ds ih =>
    intro W W' hM hB x hN h hD
    have h1 := hJ.putObj (.deferred none) h (hB D (by simp)) (hM D (by simp)) rfl
    have hDW := lt_of_heap (hM D (by simp))
    refine ih (W.putObj D (.deferred none)) W' (fun E hE => ?_) (fun E hE => hB E (by simp [hE])) ?_ (List.nodup_cons.1 hN).2 h1 (fun E hE => hD E (by simp [hE]))
    · refine (World.putObj_heap_other ?_).trans (hM E (by simp [hE]))
      rintro rfl
      exact (List.nodup_cons.1 hN).1 hE
    · have hg := grownBy_putObj' W D (.deferred none)
      refine ⟨x.os.trans hg.os.symm, x.tape.trans hg.tape.symm, x.output.trans hg.output.symm, ?_, fun k hk hkD => ?_⟩
      · have : (W.putObj D (.deferred none)).heap.size = W.heap.size := by simp [World.putObj]
        rw [this]; exact x.size
      · have hs : (W.putObj D (.deferred none)).heap.size = W.heap.size := by simp [World.putObj]
        rw [hs] at hk
        by_cases e : k = D
        · subst e
          rw [hD k (by simp), World.putObj_heap_same hDW]
        · rw [World.putObj_heap_other (fun q => e q), x.block k hk (by simp [e, hkD])]
theorem marks_own {β : Type} {Ds : List Nat} {B : Nat} (hB : ∀ D ∈ Ds, D < B) : OwnFrom B (fun (_ : β) W => Marks Ds W) := fun s X Y row h hg hr D hD => by
  refine (hg.block D (lt_of_heap (h D hD)) (fun e => ?_)).trans (h D hD)
  have := (hr D e.symm).1
  have := hB D hD
  omega
theorem Marks.keeps {Ds : List Nat} {B : Nat} {W W' : World} (h : Marks Ds W) (hB : ∀ D ∈ Ds, B ≤ D) (k : KeepsFrom B W W') : Marks Ds W' := fun D hD => k.same D _ (hB D hD) (h D hD) rfl
end Go.Proofs.YtkknadkcpndnaaaDoor
