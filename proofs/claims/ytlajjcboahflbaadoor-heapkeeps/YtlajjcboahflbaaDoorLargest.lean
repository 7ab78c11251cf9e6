/-
  Largest: the longest free run; no statement is proved here.
-/
import Derived.Test.YtlajjcboahflbaaDoorIter
namespace Go.Proofs.YtlajjcboahflbaaDoor
open Go.RowKit Go.Shelf

attribute [local go_sem] Oper.semAt_some

/-- The length of the longest free run. -/
def big (L : List Rn) : Nat := L.foldl (fun m r => if r.u then m else max m r.n) 0
theorem big_snoc (L : List Rn) (r : Rn) : big (L ++ [r]) = if r.u then big L else max (big L) r.n := by simp [big]

theorem rowAt_own {β : Type} (B : Nat) (t : TypeId) (cs : β → Array Value) : Own (fun s W => W.heap[B]? = some (.cells (cs s) t (0, 0))) := fun s X Y row hs hg hrow => by
  refine (hg.block B (Array.getElem?_eq_some_iff.1 hs).1 (fun e => ?_)).trans hs
  obtain ⟨o, ho, hc⟩ := hrow B e.symm
  rw [hs] at ho; cases ho; cases hc

/-- What a call of the program's own iterator answers. -/
def NowOf (w : World) (pv : Option Addr) (v : Value) : Prop := ∀ W, Ext [] w W → Calls Tryd.prog 71 #[.pointer pv] W fun e w' => e = .returned (itv W.heap.size) ∧ w' = W.alloc (.cells #[v] 30)
theorem nowOf_nil (w : World) : NowOf w none (.slice none 0 0) := fun W _ => now_nil W
theorem nowOf_any {T : TypeId} {ox : Nat} {cs : Array Value} {w : World} {p : Nat} {v : Value} {L : List Rn} (hR : Rs T ox cs w p v L) : NowOf w (some ⟨p, ox + 1, none⟩) v := fun W h => now_any p v L W (hR.keep0 h)

set_option maxRecDepth 100000 in
set_option maxHeartbeats 4000000 in
theorem largest_of (pv : Option Addr) (v : Value) (L : List Rn) (w : World) (hN : NowOf w pv v) (hL : Lst w v L) (hlen : L.length ≤ 1000000) : Calls Tryd.prog 40 #[.pointer pv] w (SayPost w (.int .i64 (big L))) := by
  refine (callsIn_wide (n := 8)).1 ?_
  refine callsIn_of_wp_marks Tryd.func40 rfl trivial ?_ rfl
  simp only [Tryd.ntmps40, List.size_toArray, List.length_cons, List.length_nil, Nat.reduceAdd, Nat.reduceSub, Array.replicate_succ, Array.replicate_zero, List.push_toArray, List.append_toArray, List.nil_append, List.cons_append]
  have hlt := hL.lt
  have K := hN _ (Ext.alloc [] w (.cells #[.int .i64 0] 3))
  have HL := hid hL
  clear hL hN
  gi_wp2_with (refine ⟨trivial, ?_⟩; gi_at_call 71; refine (callsIn_wide.2 K).mono ?_; rintro e w' ⟨rfl, rfl⟩)
  clear K
  have bS := (Boxed.new w 3 (.int .i64 0)).alloc (.cells #[v] 30)
  have bN := Boxed.new (w.alloc (.cells #[.int .i64 0] 3)) 30 v
  rw [World.size_alloc] at bN
  have hE0 : Ext [] w ((w.alloc (.cells #[.int .i64 0] 3)).alloc (.cells #[v] 30)) := (Ext.alloc [] _ _).trans (Ext.alloc [] _ _)
  have hsz : ((w.alloc (.cells #[.int .i64 0] 3)).alloc (.cells #[v] 30)).heap.size = w.heap.size + 2 := by simp
  obtain ⟨W0, hW0⟩ : ∃ W0, (w.alloc (.cells #[.int .i64 0] 3)).alloc (.cells #[v] 30) = W0 := ⟨_, rfl⟩
  rw [hW0] at bS bN hE0 hsz ⊢
  clear hW0
  have hL0 := HL.out.keep0 hE0
  refine wpIn_rangeFunc_ownH rfl (by omega) (gf := 86) (lb := #[.pointer (some ⟨w.heap.size + 1, 0, none⟩)]) rfl trivial (enters_of Tryd.func86 (by kernel_rfl) rfl)
    (each_stops Fence.wide _ trivial rfl (by omega) (w.heap.size + 1) v L hlen W0 bN hL0) klK_t (klK_b (by omega) (fun g hg => by have := hlt g hg; omega)) (Below.refl _ _) (fun _ => rfl)
    (fun pre W => Boxed W w.heap.size 3 (.int .i64 (big pre)) ∧ Below w.heap.size w W)
    (fun _ _ _ => False)
    (OwnFrom.and (Own.from (boxed_own _ _ _) _) (ownFrom_below (Nat.le_refl _) (by omega)))
    (fun _ _ _ _ _ hs _ _ => hs)
    ⟨bS, hE0.below⟩
    (fun x a' W => ∃ Bx, w.heap.size < Bx ∧ W.heap[Bx]? = some (.cells #[.int .i64 x.s, .int .i64 x.n, .bool x.u] 38 (0, 0)) ∧ a' = { tmps := #[.pointer pv, undef, .int .i64 0, .pointer (some ⟨w.heap.size, 0, none⟩), .pointer (some ⟨Bx, 0, none⟩), .pointer pv, itv (w.heap.size + 1), .agg #[.int .i64 x.s, .int .i64 x.n, .bool x.u], undef, undef, undef, undef, undef, undef, undef, undef], defers := [] })
    (fun x a' _ X Y row hs hg hr => by obtain ⟨Bx, h1, h2, h3⟩ := hs; exact ⟨Bx, h1, rowAt_own Bx 38 (fun _ : Unit => #[.int .i64 x.s, .int .i64 x.n, .bool x.u]) () X Y row h2 hg (fun r e => (hr r e).2), h3⟩)
    ?assign ?body ?done ?stop
  case assign =>
    rintro l pre x W K ⟨bS1, hB1⟩ hK
    gi_wp2
    exact hK _ _ ((KeepsOthers.alloc _ _).from _) (Kl.of_ext0 (Ext.alloc [] _ _)) ⟨bS1.alloc _, hB1.alloc hB1.size _⟩ ⟨W.heap.size, bS1.lt, heap_alloc_new _ _, rfl⟩
  case body =>
    rintro l pre x a' W hl ⟨r, hr⟩ ⟨bS1, hB1⟩ ⟨Bx, hBx, bX, rfl⟩ _
    have cS := bS1.cell
    have fS := bS1.frozen
    have c1 : W.cell? ⟨Bx, 1, none⟩ = some (.int .i64 x.n) := by rw [cell_of_row _ _ _ _ _ _ bX]; rfl
    have c2 : W.cell? ⟨Bx, 2, none⟩ = some (.bool x.u) := by rw [cell_of_row _ _ _ _ _ _ bX]; rfl
    have HS := big_snoc pre x
    have HB := hid bS1
    clear bS1
    cases hu : x.u
    · rw [hu] at c2 HS
      have HS2 : Hid (big (pre ++ [x]) = max (big pre) x.n) := by simp at HS; exact HS
      clear HS hu
      have hKl : ∀ u, Kl (w.heap.size + 1) v W (W.setCell ⟨w.heap.size, 0, none⟩ u) := fun u => Kl.of_ext (Ext.setCell [w.heap.size] _ _ _ (by simp)) (by simp) (fun g hg => by have := hlt g hg; simp; omega)
      gi_wp2
      · exact ⟨(KeepsOthers.setCell _ _ _).from _, hKl _, by rw [HS2.out, show max (big pre) x.n = x.n by omega]; exact HB.out.set _, hB1.setCell (p := ⟨w.heap.size, 0, none⟩) (Nat.le_refl _) _⟩
      · exact ⟨(KeepsOthers.setCell _ _ _).from _, hKl _, by rw [HS2.out, show max (big pre) x.n = big pre by omega]; exact HB.out.set _, hB1.setCell (p := ⟨w.heap.size, 0, none⟩) (Nat.le_refl _) _⟩
    · rw [hu] at c2 HS
      have HS2 : Hid (big (pre ++ [x]) = big pre) := by simp at HS; exact HS
      clear HS hu
      gi_wp2
      exact ⟨KeepsFrom.refl _ _, Kl.refl _ _ _, by rw [HS2.out]; exact HB.out, hB1⟩
  case done =>
    rintro D zs W hD rfl ⟨bS1, hB1⟩ hK
    have cS := bS1.cell
    gi_wp2
    refine ⟨by simp, .inl ⟨_, _, rfl, run_takeDeferred hK, ?_⟩⟩
    exact ⟨_, results_tmp rfl _ _ _, rfl, below_ext (hB1.trans (belowK_b (w := w) (Nat.le_refl _) W D _ _ (by omega) hK rfl rfl))⟩
  case stop =>
    rintro D c pre W _ _ h _
    exact h.elim

end Go.Proofs.YtlajjcboahflbaaDoor
