/-
  A loop of two rounds over iterators: its marks, and how far it is; no statement is proved here.
-/
import Derived.Test.YtkknadkcpndnaaaDoorRmE
import Derived.Test.YtkknadkcpndnaaaDoorPrs
import Derived.Sort.BigQuietIn
import Derived.Shelf.RegionOpen
import Derived.RangeFuncLeaves
namespace Go.Proofs.YtkknadkcpndnaaaDoor.Rm
open Go.RowKit Go.Shelf

/-- A loop of two rounds. -/
theorem wpIn_loop_two {F : Fence} {n : Nat} {P : Program} {C : Code} {Q : Exit → Act → World → Prop} {a : Act} {w : World} (I : Nat → Act → World → Prop) (h0 : I 0 a w) (hs : ∀ r a w, r < 2 → I r a w → C.wpIn F n P (Exit.then (I (r + 1)) Q) a w) (he : ∀ a w, I 2 a w → C.wpIn F n P (Exit.then (fun _ _ => False) Q) a w) : (Code.loop C).wpIn F n P Q a w := by
  refine wpIn_loop_rounds 3 ?_
  have h2 : ∀ a w, I 2 a w → Code.roundsIn F n P C Q 1 a w := he
  have h1 : ∀ a w, I 1 a w → Code.roundsIn F n P C Q 2 a w := fun a w h => Code.wpIn_mono (fun e a w q => by cases e <;> first | exact h2 _ _ q | exact q) (hs 1 a w (by omega) h)
  exact Code.wpIn_mono (fun e a w q => by cases e <;> first | exact h1 _ _ q | exact q) (hs 0 a w (by omega) h0)
/-- Marks that a function leaves behind. -/
def mk (D : Nat) : Deferred := { target := .collected D, args := #[] }
def Marks (Ds : List Nat) (W : World) : Prop := ∀ D ∈ Ds, W.heap[D]? = some (.deferred (some []))
theorem leaves_marks {F : Fence} {n : Nat} {P : Program} {fn : Func} {tmps : Array Value} {R : Ending → World → Prop} : ∀ (Ds : List Nat) (W : World), Marks Ds W → Ds.Nodup →
    (∀ W', Ext Ds W W' → ∃ v, (results fn tmps).run P W' = .ok v W' ∧ R (.returned v) W') → LeavesInM F n P fn tmps R (Ds.map mk) .returning W
  | [], W, _, _, h => by
    obtain ⟨v, h1, h2⟩ := h W (Ext.refl _ _)
    exact ⟨v, h1, h2⟩
  | D :: Ds, W, hM, hN, h => by
    have hD := hM D (by simp)
    refine ⟨by simp, .inl ⟨_, _, rfl, run_takeDeferred hD, leaves_marks Ds _ ?_ (List.nodup_cons.1 hN).2 ?_⟩⟩
    · intro D' h'
      refine (World.putObj_heap_other ?_).trans (hM D' (by simp [h']))
      rintro rfl
      exact (List.nodup_cons.1 hN).1 h'
    · intro W' hX
      refine h W' ?_
      exact (Ext.grown (S := D :: Ds) (grownBy_putObj' W D (.deferred none)) (by simp)).trans (hX.mono (by simp; intro a ha; exact .inr ha))
theorem Marks.ext {Ds : List Nat} {W W' : World} (h : Marks Ds W) (k : KeepsFrom 0 W W') : Marks Ds W' := fun D hD => k.same D _ (Nat.zero_le _) (h D hD) rfl
theorem Marks.keep0 {Ds : List Nat} {W W' : World} (h : Marks Ds W) (x : Ext [] W W') : Marks Ds W' := fun D hD => x.keep (h D hD) (by simp)
theorem marks_own {β : Type} {Ds : List Nat} {B : Nat} (hB : ∀ D ∈ Ds, D < B) : OwnFrom B (fun (_ : β) W => Marks Ds W) := fun s X Y row h hg hr D hD => by
  refine (hg.block D (lt_of_heap (h D hD)) (fun e => ?_)).trans (h D hD)
  have := (hr D e.symm).1
  have := hB D hD
  omega
/-- How far a loop over an iterator is: what came is a beginning of the list, and no cut was met. -/
def Gd {α : Type} (L : List α) (cut : Int) (pre : List α) : Prop := pre <+: L ∧ ∀ j : Nat, 1 ≤ j → j ≤ pre.length → (j : Int) ≠ cut
theorem gd_nil {α : Type} (L : List α) (cut : Int) : Gd L cut [] := ⟨List.nil_prefix, fun j h1 h2 => by simp at h2; omega⟩
theorem gd_snoc {α : Type} {L : List α} {cut : Int} {pre : List α} {x : α} (h : Gd L cut pre) (hx : L[pre.length]? = some x) (hc : ((pre.length : Int) + 1) ≠ cut) : Gd L cut (pre ++ [x]) := by
  obtain ⟨⟨t, rfl⟩, h2⟩ := h
  refine ⟨?_, fun j h1 hj => ?_⟩
  · cases t with
    | nil => simp at hx
    | cons y t =>
      have : (pre ++ (y :: t))[pre.length]? = some y := by simp
      rw [this] at hx
      cases hx
      exact ⟨t, by simp⟩
  · simp only [List.length_append, List.length_cons, List.length_nil] at hj
    by_cases e : j = pre.length + 1
    · subst e; simpa using hc
    · exact h2 j h1 (by omega)
theorem not_prefix {α : Type} {L pre : List α} {x : α} (hx : L[pre.length]? ≠ some x) : ¬ (pre ++ [x]) <+: L := by
  rintro ⟨t, rfl⟩
  apply hx
  simp
def NotPre {α : Type} (L pre : List α) : Prop := ¬ pre <+: L
theorem ext_own0 {β : Type} {W3 : World} {B : Nat} (hB : W3.heap.size ≤ B) : OwnFrom B (fun (_ : β) W => Ext [] W3 W) := fun _ X Y row h hg hr =>
  below_ext (ownFrom_below (β := Unit) (Nat.le_refl _) hB () X Y row h.below hg hr)
theorem kl_ext {Bn : Nat} {v : Value} {W3 W W' : World} (h : Ext [] W3 W) (h' : Ext [] W3 W') (h1 : Bn < W3.heap.size) (h2 : ∀ g, v.ownBlock = some g → g < W3.heap.size) : Vl.Kl Bn v W W' :=
  ⟨fun _ ho => ((h'.block _ h1 (by simp)).trans (h.block _ h1 (by simp)).symm).trans ho, fun g hg _ ho => ((h'.block _ (h2 g hg) (by simp)).trans (h.block _ (h2 g hg) (by simp)).symm).trans ho⟩
/-- A loop that owns two boxes alone. -/
def Ob2 (zk zr : Nat) (_ : World) (k : Nat) : Prop := k = zk ∨ k = zr
theorem cal_box {α : Type} {zk zr B : Nat} {J : List α → World → Prop} (hJ : OwnFrom B J) (hl : ∀ s W, J s W → zk < W.heap.size) (hr : zr < zk) : Cal (Ob2 zk zr) J B :=
  ⟨hJ, fun s W k hs hk => by have := hl s W hs; rcases hk with e | e <;> omega, fun _ _ _ _ _ _ _ h => h⟩
theorem kc_box {zk zr z : Nat} (hz : z = zk ∨ z = zr) (W : World) (v : Value) : Kc (Ob2 zk zr) W (W.setCell ⟨z, 0, none⟩ v) := by
  have x := Ext.setCell [z] W ⟨z, 0, none⟩ v (by simp)
  refine ⟨x.size, fun k o hk _ hO => x.keep hk (by simp only [List.mem_singleton]; intro e; exact hO (by subst e; exact hz)), fun _ h => .inl h⟩
theorem flat2_at : ∀ (L : List (Nat × Nat)) {k : Nat}, k < L.length → (flat2 L).getD (2 * k) 0 = (L.getD k (0, 0)).1 ∧ (flat2 L).getD (2 * k + 1) 0 = (L.getD k (0, 0)).2
  | [], _, h => absurd h (Nat.not_lt_zero _)
  | p :: L, 0, _ => by simp [flat2]
  | p :: L, k + 1, h => by
    have ih := flat2_at L (k := k) (by simpa using h)
    have e : flat2 (p :: L) = p.1 :: p.2 :: flat2 L := by simp [flat2]
    rw [e, show 2 * (k + 1) = 2 * k + 1 + 1 by omega]
    simpa using ih
end Go.Proofs.YtkknadkcpndnaaaDoor.Rm
