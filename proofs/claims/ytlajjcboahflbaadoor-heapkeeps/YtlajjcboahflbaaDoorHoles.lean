/-
  Holes: the free runs of a heap's pages, and the iterator over them; no statement is proved here.
-/
import Derived.Test.YtlajjcboahflbaaDoorNear
namespace Go.Proofs.YtlajjcboahflbaaDoor
open Go.RowKit Go.Shelf

attribute [local go_sem] Oper.semAt_some
theorem run_store_func (P : Program) (w : World) (a : Addr) (f : Fn) (x y : Array Value) (m : Mode) : (store a (.func f x y) m).run P w = stored P w a (.func f x y) m := run_store P w a _ m rfl
attribute [local go_sem] run_store_func

def fr (L : List Rn) : List Rn := L.filter fun x => !x.u
theorem fr_snoc (L : List Rn) (x : Rn) : fr (L ++ [x]) = if x.u then fr L else fr L ++ [x] := by
  unfold fr
  rw [List.filter_append]
  cases hx : x.u <;> simp [hx]
theorem fr_len (L : List Rn) : (fr L).length ≤ L.length := List.length_filter_le _ _

def hitv (B : Nat) : Value := .func (.func 66) #[] #[.pointer (some ⟨B, 0, none⟩)]
def HlPost (w : World) (L : List Rn) (e : Ending) (w' : World) : Prop := ∃ B Bn v, e = .returned (hitv B) ∧ Boxed w' B 83 (itv Bn) ∧ Boxed w' Bn 30 v ∧ Lst w' v L ∧ w.heap.size ≤ B ∧ w.heap.size ≤ Bn ∧ (∀ g, v.ownBlock = some g → w.heap.size ≤ g) ∧ Ext [] w w'

theorem holes_any {T : TypeId} {ox : Nat} {cs : Array Value} (p : Nat) (v : Value) (L : List Rn) (w : World) (hR : Rs T ox cs w p v L) (hlen : L.length ≤ 1000000) : Calls Tryd.prog 31 #[.pointer (some ⟨p, ox, none⟩)] w (HlPost w L) := by
  have K := all_any p v L w hR hlen
  clear hR
  go_enter Tryd.func31, Tryd.ntmps31
  go_wp2_with fail
  refine K.mono ?_
  clear K
  rintro e w1 ⟨Bn, v', rfl, hB, hL1, h1, h2, hE⟩
  have hx := Ext.alloc [] w1 (.cells #[itv Bn] 83)
  have HF : Hid (HlPost w L (.returned (hitv w1.heap.size)) (w1.alloc (.cells #[itv Bn] 83))) :=
    ⟨_, _, _, rfl, Boxed.new _ _ _, hx.keep hB (by simp), hL1.keep0 hx, hE.size, h1, h2, hE.trans hx⟩
  clear hB hL1 h1 h2 hE hx
  unfold itv
  go_wp2
  go_ret
  exact HF.out

/-- What a round of a loop over the holes must keep. -/
def Kh (K : List Nat) (A B : World) : Prop := Ks K A B ∧ ∀ b v, Boxed A b 132 v → Boxed B b 132 v
theorem Kh.refl (K : List Nat) (A : World) : Kh K A A := ⟨Ks.refl _ _, fun _ _ h => h⟩
theorem khK_t {K : List Nat} {A B C : World} (h : Kh K A B) (k : Kh K B C) : Kh K A C := ⟨h.1.trans k.1, fun b v hb => k.2 b v (h.2 b v hb)⟩
theorem kh_ext0 {K : List Nat} {A B : World} (x : Ext [] A B) : Kh K A B := ⟨Ks.of_ext0 x, fun _ _ hb => x.keep hb (by simp)⟩
theorem Kh.kl {Bn B : Nat} {v : Value} {A C : World} (h : Kh (B :: Bn :: v.ownBlock.toList) A C) : Kl Bn v A C :=
  ⟨fun o ho => h.1 Bn (by simp) o ho, fun g hg o ho => h.1 g (by simp [hg]) o ho⟩
theorem yield_any {m n : Nat} {P : Program} {l l' : Nat} {args : Array Value} {W : World} {R : Ending → World → Prop} (h : YieldAt Fence.wide n P l args W R) : YieldAt (Fence.wide.inRound l') m P l args W R := by
  obtain ⟨fn, t, a, b, hy, h1, h2⟩ := h
  exact ⟨fn, t, a, b, hy, h1, fun c cs _ => h2 c cs (room_wide _)⟩

set_option maxRecDepth 100000 in
set_option maxHeartbeats 4000000 in
theorem holes_gives (n : Nat) (hn : 4 ≤ n) (B Bn : Nat) (v : Value) (L : List Rn) (hlen : L.length ≤ 1000000) (w : World) (hB : Boxed w B 83 (itv Bn)) (hBn : Boxed w Bn 30 v) (hL : Lst w v L) :
    Gives Fence.wide n Tryd.prog 66 #[.pointer (some ⟨B, 0, none⟩)] (fun x : Rn => #[Value.agg #[.int .i64 x.s, .int .i64 x.n, .bool x.u]]) (Kh (B :: Bn :: v.ownBlock.toList)) (fr L) L.length w := by
  intro l J W1 hl hb hJ hY h0
  have hE1 := below_ext hb
  replace hB := hE1.keep hB (by simp)
  replace hBn := hE1.keep hBn (by simp)
  replace hL := hL.keep0 hE1
  clear hE1 hb
  refine callsIn_of_wp_marks Tryd.func66 rfl trivial ?_ rfl
  simp only [Tryd.ntmps66, List.size_toArray, List.length_cons, List.length_nil, Nat.reduceAdd, Nat.reduceSub, Array.replicate_succ, Array.replicate_zero, List.push_toArray, List.append_toArray, List.nil_append, List.cons_append]
  have hE2 := Ext.alloc [] W1 (.cells #[.func (.yield l) #[] #[]] 132)
  have hcB := Boxed.cell (hE2.keep hB (by simp))
  have hbn := hE2.keep hBn (by simp)
  have hl2 := hL.keep0 hE2
  have hgl : ∀ g, v.ownBlock = some g → g < W1.heap.size := fun g hg => by
    rcases id hL.2 with ⟨q, _⟩ | ⟨g', cap, cur, q, _, hg', _⟩
    · rw [q] at hg; simp [Value.ownBlock] at hg
    · rw [q] at hg; simp [Value.ownBlock] at hg; subst hg; exact lt_of_heap hg'
  have hbnl := Boxed.lt hBn
  have bY := Boxed.new W1 132 (.func (.yield l) #[] #[])
  have hJ0 : J [] (W1.alloc (.cells #[.func (.yield l) #[] #[]] 132)) := hJ.alloc _ h0
  have hz : (W1.alloc (.cells #[.func (.yield l) #[] #[]] 132)).heap.size = W1.heap.size + 1 := by simp
  unfold itv at hcB
  have HB := hid hB
  clear hB hBn hL hE2
  gi_wp2
  obtain ⟨W0, hW0⟩ : ∃ W0, W1.alloc (.cells #[.func (.yield l) #[] #[]] 132) = W0 := ⟨_, rfl⟩
  rw [hW0] at bY hJ0 hz hbn hl2 ⊢
  clear hW0 h0
  refine wpIn_rangeFunc_ownH rfl (by omega) (gf := 86) (lb := #[.pointer (some ⟨Bn, 0, none⟩)]) rfl trivial (enters_of Tryd.func86 (by kernel_rfl) rfl)
    (each_stops Fence.wide _ trivial rfl (by omega) Bn v L hlen W0 hbn hl2) klK_t (klK_b (by omega) (fun g hg => by have := hgl g hg; omega)) (Below.refl _ _) (fun _ => rfl)
    (fun pre W => J (fr pre) W ∧ Boxed W W1.heap.size 132 (.func (.yield l) #[] #[]))
    (fun _ _ _ => False)
    (OwnFrom.and (fun s X Y row hs hg hr => hJ (fr s) X Y row hs hg (fun r e => ⟨by have := (hr r e).1; omega, (hr r e).2⟩)) (Own.from (boxed_own _ _ _) _))
    (fun _ _ _ _ _ hs _ _ => hs)
    ⟨hJ0, bY⟩
    (fun x a' W => ∃ Bx, W.heap[Bx]? = some (.cells #[.int .i64 x.s, .int .i64 x.n, .bool x.u] 38 (0, 0)) ∧ a' = { tmps := #[.func (.yield l) #[] #[], .pointer (some ⟨B, 0, none⟩), .pointer (some ⟨W1.heap.size, 0, none⟩), .pointer (some ⟨Bx, 0, none⟩), .func (.func 86) #[] #[.pointer (some ⟨Bn, 0, none⟩)], .agg #[.int .i64 x.s, .int .i64 x.n, .bool x.u], undef, undef, undef, undef, undef, undef, undef, undef, undef], defers := [] })
    (fun x a' _ X Y row hs hg hr => by obtain ⟨Bx, h2, h3⟩ := hs; exact ⟨Bx, rowAt_own Bx 38 (fun _ : Unit => #[.int .i64 x.s, .int .i64 x.n, .bool x.u]) () X Y row h2 hg (fun r e => (hr r e).2), h3⟩)
    ?assign ?body ?done ?stop
  case assign =>
    rintro l2 pre x W K ⟨hi, hbY⟩ hK
    gi_wp2
    exact hK _ _ ((KeepsOthers.alloc _ _).from _) (Kl.of_ext0 (Ext.alloc [] _ _)) ⟨hJ.alloc _ hi, hbY.alloc _⟩ ⟨W.heap.size, heap_alloc_new _ _, rfl⟩
  case body =>
    rintro l2 pre x a' W hl ⟨r, hr⟩ ⟨hi, hbY⟩ ⟨Bx, bX, rfl⟩ hlt
    have cY := Boxed.cell hbY
    have c0 : W.cell? ⟨Bx, 0, none⟩ = some (.int .i64 x.s) := by rw [cell_of_row _ _ _ _ _ _ bX]; rfl
    have c1 : W.cell? ⟨Bx, 1, none⟩ = some (.int .i64 x.n) := by rw [cell_of_row _ _ _ _ _ _ bX]; rfl
    have c2 : W.cell? ⟨Bx, 2, none⟩ = some (.bool x.u) := by rw [cell_of_row _ _ _ _ _ _ bX]; rfl
    have Hsn := hid (fr_snoc pre x)
    have hpl := fr_len pre
    cases hu : x.u with
    | true =>
      rw [hu] at c2 Hsn
      have HI := hid hi
      have HBY := hid hbY
      clear hi hbY hY
      gi_wp2
      refine ⟨fun f hf => (by cases hf), ?_⟩
      gi_wp2
      exact ⟨KeepsFrom.refl _ _, Kl.refl _ _ _, by rw [Hsn.out]; exact HI.out, HBY.out⟩
    | false =>
      obtain ⟨fn, tmps, assign, body, hy, hR⟩ := yield_any (l' := l2) (m := n - 1 - 1 - 1) (hY (fr pre) x W hi (by omega))
      rw [hu] at c2 Hsn hy
      have HBY := hid hbY
      clear hi hbY hY
      gi_wp2
      refine ⟨fun _ => by omega, hR.mono ?_⟩
      rintro e W3 ⟨rfl, hJ3, hk3, hkp3⟩
      have HF : Hid (KeepsFrom W0.heap.size W W3 ∧ Kl Bn v W W3 ∧ J (fr (pre ++ [x])) W3 ∧ Boxed W3 W1.heap.size 132 (.func (.yield l) #[] #[])) :=
        ⟨keepsFrom_up hk3 (by omega), hkp3.kl, by rw [Hsn.out]; exact hJ3, hkp3.2 _ _ HBY.out⟩
      clear hJ3 hk3 hkp3
      gi_wp2
      exact HF.out
  case done =>
    rintro D zs W hD rfl ⟨hi, _⟩ hK
    gi_wp2
    refine ⟨by simp, .inl ⟨_, _, rfl, run_takeDeferred hK, ?_⟩⟩
    refine ⟨_, results_none rfl _ _ _, ⟨_, rfl⟩, ?_⟩
    exact hJ.putObj _ hi (by omega) hK rfl
  case stop =>
    rintro D c pre W _ _ h _
    exact h.elim

end Go.Proofs.YtlajjcboahflbaaDoor
