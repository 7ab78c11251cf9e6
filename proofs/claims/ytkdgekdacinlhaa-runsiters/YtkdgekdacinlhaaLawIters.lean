/-
  An iterator gives what there was at its call, again and again, up to where the loop is left, though pages are taken meanwhile: the function RunsIters answers true and leaves its arguments as they were, for every number of pages, every script, every cut and every n; no condition.
-/
import Derived.Test.YtkdgekdacinlhaaOpen
import Derived.SizedLaws
import Derived.Sort.BigQuietIn
import Derived.Shelf.RegionOpen
namespace Go.Proofs.Ytkdgekdacinlhaa
open Go.RowKit Go.Shelf

attribute [local go_sem] Oper.semAt_some

/-- Pages that turn while the blocks of T stay as they were in W3. -/
structure Rq (w W3 : World) (T : List Nat) (p P : Nat) (W : World) : Prop where
  keep : ∀ b ∈ T, W.heap[b]? = W3.heap[b]?
  size : W3.heap.size ≤ W.heap.size
  below : Below w.heap.size w W
  run : ∃ v L', Rs W p v L' ∧ Inv P L' ∧ p ∉ T ∧ w.heap.size ≤ p ∧ ∀ g, v.ownBlock = some g → g ∉ T ∧ w.heap.size ≤ g

theorem Rq.boxed {w W3 W : World} {T : List Nat} {p P b : Nat} {t : TypeId} {u : Value} (h : Rq w W3 T p P W) (hb : Boxed W3 b t u) (hT : b ∈ T) : Boxed W b t u := (h.keep b hT).trans hb
theorem Rq.lst {w W3 W : World} {T : List Nat} {p P : Nat} {v : Value} {L : List Rn} (h : Rq w W3 T p P W) (hl : Lst W3 v L) (hT : ∀ g, v.ownBlock = some g → g ∈ T) : Lst W v L := by
  refine ⟨hl.1, ?_⟩
  rcases hl.2 with q | ⟨g, cap, cur, rfl, h1, h2, h3⟩
  · exact .inl q
  · exact .inr ⟨g, cap, cur, rfl, h1, (h.keep g (hT g rfl)).trans h2, h3⟩
theorem Rq.kl {w W3 W W' : World} {T : List Nat} {p P Bn : Nat} {v : Value} (h : Rq w W3 T p P W) (h' : Rq w W3 T p P W') (h1 : Bn ∈ T) (h2 : ∀ g, v.ownBlock = some g → g ∈ T) : Kl Bn v W W' :=
  ⟨fun _ ho => ((h'.keep _ h1).trans (h.keep _ h1).symm).trans ho, fun g hg _ ho => ((h'.keep _ (h2 g hg)).trans (h.keep _ (h2 g hg)).symm).trans ho⟩
theorem Rq.ext0 {w W3 W W' : World} {T : List Nat} {p P : Nat} (hT : ∀ b ∈ T, b < W3.heap.size) (h : Rq w W3 T p P W) (x : Ext [] W W') : Rq w W3 T p P W' := by
  obtain ⟨v, L', hR, hI, hp⟩ := h.run
  exact ⟨fun b hb => (x.block b (Nat.lt_of_lt_of_le (hT b hb) h.size) (by simp)).trans (h.keep b hb), Nat.le_trans h.size x.size, h.below.trans (x.below.mono h.below.size), v, L', hR.keep0 x, hI, hp⟩
theorem Rq.set {w W3 W : World} {T : List Nat} {p P kb : Nat} {u : Value} (hT : ∀ b ∈ T, b < W3.heap.size) (hw : w.heap.size ≤ W3.heap.size) (h : Rq w W3 T p P W) (hk : Boxed W kb 3 u) (hk3 : W3.heap.size ≤ kb) (u' : Value) : Rq w W3 T p P (W.setCell ⟨kb, 0, none⟩ u') := by
  obtain ⟨v, L', hR, hI, hp⟩ := h.run
  have x := Ext.setCell [kb] W ⟨kb, 0, none⟩ u' (by simp)
  have n1 : p ≠ kb := by
    rintro rfl
    have := hR.box.symm.trans hk
    simp at this
  have n2 : v.ownBlock ≠ some kb := own_ne hR.row hk (by decide)
  refine ⟨fun b hb => (x.block b (Nat.lt_of_lt_of_le (hT b hb) h.size) (by have := hT b hb; simp; omega)).trans (h.keep b hb), Nat.le_trans h.size x.size, h.below.setCell (p := ⟨kb, 0, none⟩) (by show w.heap.size ≤ kb; omega) _, v, L', hR.keep x (by simpa using n1) (by simpa using n2), hI, hp⟩

/-- Alloc meanwhile. -/
def RqPost (w W3 : World) (T : List Nat) (p P : Nat) (W : World) (e : Ending) (W' : World) : Prop :=
  (∃ r, e = .returned r) ∧ Rq w W3 T p P W' ∧ (∀ B, KeepsFrom B W W') ∧ (∀ b t u, t ≠ 54 → t ≠ 42 → Boxed W b t u → Boxed W' b t u)
theorem rq_alloc {w W3 W : World} {T : List Nat} {p P : Nat} (m : Int) (hT : ∀ b ∈ T, b < W3.heap.size) (h : Rq w W3 T p P W) : Calls Try.prog 19 #[.pointer (some ⟨p, 0, none⟩), .int .i64 m] W (RqPost w W3 T p P W) := by
  obtain ⟨v, L', hR, hI, hpT, hpw, hv⟩ := h.run
  refine (alloc_any p m v L' W hR hI).mono ?_
  rintro e W' ⟨v', rfl, hR', hON, hX⟩
  have hS : ∀ b, b ∈ p :: v.ownBlock.toList → b ∉ T ∧ w.heap.size ≤ b ∧ ∃ cs t, W.heap[b]? = some (.cells cs t (0, 0)) ∧ (t = 54 ∨ t = 42) := by
    intro b hb
    simp only [List.mem_cons, Option.mem_toList] at hb
    rcases hb with rfl | hb
    · exact ⟨hpT, hpw, _, _, hR.box, .inl rfl⟩
    · rcases hR.row.2 with ⟨rfl, _⟩ | ⟨g, cap, cur, rfl, _, hg, _⟩
      · simp [Value.ownBlock] at hb
      · simp [Value.ownBlock] at hb
        subst hb
        exact ⟨(hv g rfl).1, (hv g rfl).2, _, _, hg, .inr rfl⟩
  refine ⟨⟨_, rfl⟩, ⟨?_, Nat.le_trans h.size hX.size, ?_, v', _, hR', inv_al hI m, hpT, hpw, ?_⟩, ?_, ?_⟩
  · exact fun b hb => (hX.block b (Nat.lt_of_lt_of_le (hT b hb) h.size) (fun hq => (hS b hq).1 hb)).trans (h.keep b hb)
  · exact h.below.trans ⟨hX.os, hX.tape, hX.output, hX.size, fun k hk => by
      by_cases hk2 : k < W.heap.size
      · exact hX.block k hk2 (fun hq => by have := (hS k hq).2.1; omega)
      · have := h.below.size; omega⟩
  · intro g hg
    rcases hON with hq | hq
    · exact hv g (by rw [← hq]; exact hg)
    · have h1 := hq g hg
      have := h.size
      have := h.below.size
      exact ⟨fun ht => by have := hT g ht; omega, by omega⟩
  · intro B
    refine ⟨hX.size, fun k o _ hk ho => hX.keep hk (fun hq => ?_)⟩
    obtain ⟨_, _, cs, t, hc, _⟩ := hS k hq
    rw [hk] at hc
    cases hc
    cases ho
  · intro b t u h54 h42 hb
    refine hX.keep hb (fun hq => ?_)
    obtain ⟨_, _, cs, t', hc, ht⟩ := hS b hq
    rw [show W.heap[b]? = _ from hb] at hc
    simp only [Option.some.injEq, Obj.cells.injEq] at hc
    rcases ht with rfl | rfl
    · exact h54 hc.2.1
    · exact h42 hc.2.1

theorem rq_own {β : Type} {w W3 : World} {T : List Nat} {p P B : Nat} (hT : ∀ b ∈ T, b < W3.heap.size) (hw : w.heap.size ≤ W3.heap.size) (hB : W3.heap.size ≤ B) : OwnFrom B (fun (_ : β) W => Rq w W3 T p P W) := by
  intro s X Y row h hg hr
  obtain ⟨v, L', hR, hI, hp⟩ := h.run
  have hrow : ∀ {b : Nat} {cs : Array Value} {t : TypeId}, X.heap[b]? = some (.cells cs t (0, 0)) → Y.heap[b]? = some (.cells cs t (0, 0)) := fun {b cs t} hb => by
    refine (hg.block b (lt_of_heap hb) (fun e => ?_)).trans hb
    obtain ⟨_, o, ho, hc⟩ := hr b e.symm
    rw [hb] at ho; cases ho; cases hc
  refine ⟨fun b hb => ?_, Nat.le_trans h.size hg.size, ownFrom_below (β := Unit) (Nat.le_refl _) (by omega) () X Y row h.below hg hr, v, L', ⟨hrow hR.box, ?_⟩, hI, hp⟩
  · have hbl := hT b hb
    refine (hg.block b (Nat.lt_of_lt_of_le hbl h.size) (fun e => ?_)).trans (h.keep b hb)
    have := (hr b e.symm).1
    omega
  · refine ⟨hR.row.1, ?_⟩
    rcases hR.row.2 with q | ⟨g, cap, cur, rfl, h1, h2, h3⟩
    · exact .inl q
    · exact .inr ⟨g, cap, cur, rfl, h1, hrow h2, h3⟩

/-- A loop of two rounds. -/
theorem wpIn_loop_two {F : Fence} {n : Nat} {P : Program} {C : Code} {Q : Exit → Act → World → Prop} {a : Act} {w : World} (I : Nat → Act → World → Prop) (h0 : I 0 a w) (hs : ∀ r a w, r < 2 → I r a w → C.wpIn F n P (Exit.then (I (r + 1)) Q) a w) (he : ∀ a w, I 2 a w → C.wpIn F n P (Exit.then (fun _ _ => False) Q) a w) : (Code.loop C).wpIn F n P Q a w := by
  refine wpIn_loop_rounds 3 ?_
  have h2 : ∀ a w, I 2 a w → Code.roundsIn F n P C Q 1 a w := he
  have h1 : ∀ a w, I 1 a w → Code.roundsIn F n P C Q 2 a w := fun a w h => Code.wpIn_mono (fun e a w q => by cases e <;> first | exact h2 _ _ q | exact q) (hs 1 a w (by omega) h)
  exact Code.wpIn_mono (fun e a w q => by cases e <;> first | exact h1 _ _ q | exact q) (hs 0 a w (by omega) h0)

/-- What code does, told once. -/
theorem wpIn_at {F : Fence} {n : Nat} {P : Program} {C : Code} {Q : Exit → Act → World → Prop} {a : Act} {w : World} (A : Act) (V : World) (h : C.wpIn F n P (fun e a2 w2 => e = Exit.normal ∧ w2 = V ∧ a2 = A) a w) (hq : Q .normal A V) : C.wpIn F n P Q a w :=
  Code.wpIn_mono (fun e a2 w2 ⟨h1, h2, h3⟩ => by subst h1 h2 h3; exact hq) h

/-- Marks that a function leaves behind. -/
def mk (D : Nat) : Deferred := { target := .collected D, args := #[] }
def Marks (Ds : List Nat) (W : World) : Prop := ∀ D ∈ Ds, W.heap[D]? = some (.deferred (some []))

theorem leaves_marks {F : Fence} {n : Nat} {P : Program} {fn : Func} {tmps : Array Value} {R : Ending → World → Prop} : ∀ (Ds : List Nat) (W : World), Marks Ds W → Ds.Nodup →
    (∀ W', Ext Ds W W' → ∃ v, (results fn tmps).run P W' = .ok v W' ∧ R (.returned v) W') → LeavesInM F n P fn tmps R (Ds.map mk) .returning W
  | [], W, _, _, h => by
    obtain ⟨v, h1, h2⟩ := h W (Ext.refl _ _)
    exact ⟨v, h1, h2⟩
  | D :: Ds, W, hM, hN, h => by
    have hD := hM D (by simp)
    refine ⟨by simp, .inl ⟨_, _, rfl, run_takeDeferred hD, leaves_marks Ds _ ?_ (List.nodup_cons.1 hN).2 ?_⟩⟩
    · intro D' h'
      refine (World.putObj_heap_other ?_).trans (hM D' (by simp [h']))
      rintro rfl
      exact (List.nodup_cons.1 hN).1 h'
    · intro W' hX
      refine h W' ?_
      exact (Ext.grown (S := D :: Ds) (grownBy_putObj' W D (.deferred none)) (by simp)).trans (hX.mono (by simp; intro a ha; exact .inr ha))

theorem Marks.ext {Ds : List Nat} {W W' : World} (h : Marks Ds W) (k : KeepsFrom 0 W W') : Marks Ds W' := fun D hD => k.same D _ (Nat.zero_le _) (h D hD) rfl
theorem marks_own {β : Type} {Ds : List Nat} {B : Nat} (hB : ∀ D ∈ Ds, D < B) : OwnFrom B (fun (_ : β) W => Marks Ds W) := fun s X Y row h hg hr D hD => by
  refine (hg.block D (lt_of_heap (h D hD)) (fun e => ?_)).trans (h D hD)
  have := (hr D e.symm).1
  have := hB D hD
  omega

theorem results_cell1 {P : Program} {fn : Func} {p : Tmp} {ty : TypeId} (h : fn.results = #[.cell p ty]) (tmps : Array Value) (w : World) (a : Addr) (v : Value)
    (hp : tmps.getD p undef = .pointer (some a)) (h1 : (loadVar ty a).run P w = .ok v w) : (results fn tmps).run P w = .ok v w := by
  have hp' : tmps[p]?.getD undef = .pointer (some a) := by simpa using hp
  simp [results, h, hp', asAddr, h1]

/-- How far a loop over an iterator is: what came is a beginning of the list, and no cut was met. -/
def Gd (L : List Rn) (cut : Int) (pre : List Rn) : Prop := pre <+: L ∧ ∀ j : Nat, 1 ≤ j → j ≤ pre.length → (j : Int) ≠ cut
theorem gd_nil (L : List Rn) (cut : Int) : Gd L cut [] := ⟨List.nil_prefix, fun j h1 h2 => by simp at h2; omega⟩
theorem gd_snoc {L : List Rn} {cut : Int} {pre : List Rn} {x : Rn} (h : Gd L cut pre) (hl : pre.length < L.length) (hx : x = rnAt L pre.length) (hc : ((pre.length : Int) + 1) ≠ cut) : Gd L cut (pre ++ [x]) := by
  obtain ⟨⟨t, rfl⟩, h2⟩ := h
  refine ⟨?_, fun j h1 hj => ?_⟩
  · cases t with
    | nil => simp at hl
    | cons y t =>
      have : rnAt (pre ++ (y :: t)) pre.length = y := rnAt_eq rfl rfl
      rw [hx, this]
      exact ⟨t, by simp⟩
  · simp only [List.length_append, List.length_cons, List.length_nil] at hj
    by_cases e : j = pre.length + 1
    · subst e; simpa using hc
    · exact h2 j h1 (by omega)
theorem not_prefix {L pre : List Rn} {x : Rn} (hl : pre.length < L.length) (hx : x ≠ rnAt L pre.length) : ¬ (pre ++ [x]) <+: L := by
  rintro ⟨t, rfl⟩
  apply hx
  rw [show pre ++ [x] ++ t = pre ++ (x :: t) by simp, rnAt_eq rfl rfl]
def NotPre (L pre : List Rn) : Prop := ¬ pre <+: L

namespace runsIters

set_option maxRecDepth 100000 in
set_option maxHeartbeats 8000000 in
theorem walk (pages : Int) (a : Option Addr) (n c : Nat) (S : List (Int × Int)) (cut m : Int) (w : World) (hS : Sc w a S) (hn : S.length = n) :
    Calls Try.prog 7 #[.int .i64 pages, .slice a n c, .int .i64 cut, .int .i64 m] w (SayPost w (.bool true)) := by
  have HKG : Hid (∀ W, Ext [] w W → Calls Try.prog 16 #[.int .i64 pages, .slice a n c] W (GrPost W (grL pages S))) := fun W h => grown_any pages a n c S W (hS.keep0 h) hn
  have HI := hid (inv_gr pages S)
  clear hS hn
  generalize grL pages S = L at *
  generalize grP pages = P at *
  refine (callsIn_wide (n := 8)).1 ?_
  refine callsIn_of_wp_marks Try.func7 rfl trivial ?_ rfl
  simp only [Try.ntmps7, List.size_toArray, List.length_cons, List.length_nil, Nat.reduceAdd, Nat.reduceSub, Array.replicate_succ, Array.replicate_zero, List.push_toArray, List.append_toArray, List.nil_append, List.cons_append]
  have hE0 : Ext [] w (((w.alloc (.cells #[.int .i64 cut] 3)).alloc (.cells #[.int .i64 m] 3)).alloc (.cells #[.bool false] 4)) := ((Ext.alloc [] _ _).trans (Ext.alloc [] _ _)).trans (Ext.alloc [] _ _)
  have b0 := ((Boxed.new w 3 (.int .i64 cut)).alloc (.cells #[.int .i64 m] 3)).alloc (.cells #[.bool false] 4)
  have b1 := (Boxed.new (w.alloc (.cells #[.int .i64 cut] 3)) 3 (.int .i64 m)).alloc (.cells #[.bool false] 4)
  have b2 := Boxed.new ((w.alloc (.cells #[.int .i64 cut] 3)).alloc (.cells #[.int .i64 m] 3)) 4 (.bool false)
  simp only [World.size_alloc] at b1 b2
  have K := HKG.out _ hE0
  have HE0 := hid hE0
  have HB0 := hid b0
  have HB1 := hid b1
  have HB2 := hid b2
  clear hE0 b0 b1 b2
  gi_wp2_with fail
  refine ⟨trivial, ?_⟩
  refine (callsIn_wide.2 K).mono ?_
  clear K
  rintro e w1 ⟨p, v, rfl, hR, hp, hv, hE1⟩
  have hz : w.heap.size + 2 < w1.heap.size := by have := hE1.size; simp at this; omega
  have hpz : w.heap.size + 2 < p := by simp at hp; omega
  have hEa := Ext.alloc [] w1 (.cells #[.pointer (some ⟨p, 0, none⟩)] 24)
  have HR1 := hid (hR.keep0 hEa)
  have HV : Hid (∀ g, v.ownBlock = some g → w.heap.size + 2 < g ∧ g < w1.heap.size) := fun g hg => ⟨by have := hv g hg; simp at this; omega, hR.row.lt g hg⟩
  have hpl : p < w1.heap.size := hR.lt
  have HB0' := hid (show Boxed _ w.heap.size 3 _ from (hE1.trans hEa).keep HB0.out (by simp))
  have HB1' := hid (show Boxed _ (w.heap.size + 1) 3 _ from (hE1.trans hEa).keep HB1.out (by simp))
  have HB2' := hid (show Boxed _ (w.heap.size + 1 + 1) 4 _ from (hE1.trans hEa).keep HB2.out (by simp))
  have HB3 := hid (Boxed.new w1 24 (.pointer (some ⟨p, 0, none⟩)))
  have HE1 := hid ((HE0.out.trans hE1).trans hEa)
  have K := HKG.out _ HE1.out
  clear hR hp hv hE1 hEa HB0 HB1 HB2 HE0
  gi_wp2_with fail
  refine ⟨trivial, ?_⟩
  refine (callsIn_wide.2 K).mono ?_
  clear K HKG
  rintro e w2 ⟨p2, v2, rfl, hR2, hp2, hv2, hE2⟩
  have HR2 := hid (HR1.out.keep0 hE2)
  have HRo := hid hR2
  have HC0 := hid (show Boxed w2 w.heap.size 3 _ from hE2.keep HB0'.out (by simp))
  have HC1 := hid (show Boxed w2 (w.heap.size + 1) 3 _ from hE2.keep HB1'.out (by simp))
  have HC2 := hid (show Boxed w2 (w.heap.size + 1 + 1) 4 _ from hE2.keep HB2'.out (by simp))
  have HC3 := hid (show Boxed w2 w1.heap.size 24 _ from hE2.keep HB3.out (by simp))
  have HE2 := hid (HE1.out.trans hE2)
  have HV2 : Hid (∀ g, v2.ownBlock = some g → w1.heap.size < g ∧ g < w2.heap.size) := fun g hg => ⟨by have := hv2 g hg; simp at this; omega, hR2.row.lt g hg⟩
  have hp2z : w1.heap.size < p2 := by simp at hp2; omega
  have hp2l : p2 < w2.heap.size := hR2.lt
  have hw12 : w1.heap.size < w2.heap.size := by omega
  clear hR2 hp2 hv2 hE2 HB0' HB1' HB2' HB3 HR1 HE1
  gi_wp2_with fail
  refine ⟨trivial, ?_⟩
  refine (callsIn_wide.2 (awake_any w2)).mono ?_
  rintro e w3 ⟨rfl, hE3⟩
  have HR3 := hid (HR2.out.keep0 hE3)
  have HRo3 := hid (HRo.out.keep0 hE3)
  have HC0' := hid (show Boxed w3 w.heap.size 3 _ from hE3.keep HC0.out (by simp))
  have HC1' := hid (show Boxed w3 (w.heap.size + 1) 3 _ from hE3.keep HC1.out (by simp))
  have HC2' := hid (show Boxed w3 (w.heap.size + 1 + 1) 4 _ from hE3.keep HC2.out (by simp))
  have hc3 : Boxed w3 w1.heap.size 24 _ := hE3.keep HC3.out (by simp)
  have c3 := hc3.cell
  have HC3' := hid hc3
  have HE3 := hid (HE2.out.trans hE3)
  have hw23 : w2.heap.size ≤ w3.heap.size := hE3.size
  clear hE3 hc3 HC0 HC1 HC2 HC3 HR2 HRo HE2
  have hLl : L.length ≤ 1024 := Nat.le_trans HI.out.len HI.out.le
  gi_wp2_with fail
  refine ⟨trivial, ?_⟩
  refine (callsIn_wide.2 (told_any p v L w3 HR3.out hLl)).mono ?_
  rintro e w4 ⟨v4, rfl, hL4, hn4, hE4⟩
  obtain ⟨a4, c4, rfl, _⟩ := hL4.slice
  have hEb := Ext.alloc [] w4 (.cells #[.slice a4 L.length c4] 34)
  have hE5 := hE4.trans hEb
  have HR5 := hid (HR3.out.keep0 hE5)
  have HRo5 := hid (HRo3.out.keep0 hE5)
  have HD0 := hid (show Boxed _ w.heap.size 3 _ from hE5.keep HC0'.out (by simp))
  have HD1 := hid (show Boxed _ (w.heap.size + 1) 3 _ from hE5.keep HC1'.out (by simp))
  have HD2 := hid (show Boxed _ (w.heap.size + 1 + 1) 4 _ from hE5.keep HC2'.out (by simp))
  have hd3 : Boxed _ w1.heap.size 24 _ := hE5.keep HC3'.out (by simp)
  have HD4 := hid (Boxed.new w4 34 (.slice a4 L.length c4))
  have d3 := hd3.cell
  have HD3 := hid hd3
  have HL5 := hid (hL4.keep0 hEb)
  have HV4 : Hid (∀ g, (Value.slice a4 L.length c4).ownBlock = some g → w3.heap.size ≤ g ∧ g < w4.heap.size) := fun g hg => ⟨hn4 g hg, hL4.lt g hg⟩
  have HE5 := hid (HE3.out.trans hE5)
  have hw34 : w3.heap.size ≤ w4.heap.size := hE4.size
  clear hE4 hE5 hEb hL4 hn4 hd3 HR3 HRo3 HC0' HC1' HC2' HC3' HE3
  gi_wp2_with fail
  refine ⟨trivial, ?_⟩
  refine (callsIn_wide.2 (all_any p v L _ HR5.out (by omega))).mono ?_
  rintro e Wz ⟨Bn, vi, rfl, hBi, hLi, hBn, hni, hE6⟩
  have hBn4 : w4.heap.size < Bn := by simp at hBn; omega
  have hni4 : ∀ g, vi.ownBlock = some g → w4.heap.size < g := fun g hg => by have := hni g hg; simp at this; omega
  have hwz : w4.heap.size < Wz.heap.size := by have := hE6.size; simp at this; omega
  obtain ⟨T, hTd⟩ : ∃ T, T = [w.heap.size, w.heap.size + 1, w.heap.size + 1 + 1, w1.heap.size, w4.heap.size, Bn, p2] ++ ((Value.slice a4 L.length c4).ownBlock.toList ++ (vi.ownBlock.toList ++ v2.ownBlock.toList)) := ⟨_, rfl⟩
  have HT : Hid (∀ b ∈ T, b < Wz.heap.size) := fun b hb => by
    rw [hTd] at hb
    simp only [List.mem_append, List.mem_cons, List.not_mem_nil, or_false, Option.mem_toList] at hb
    have := hBi.lt
    rcases hb with (rfl | rfl | rfl | rfl | rfl | rfl | rfl) | hb | hb | hb
    any_goals omega
    · have := HV4.out b hb; omega
    · exact hLi.lt b hb
    · have := HV2.out b hb; omega
  have HT0 : Hid (w.heap.size ∈ T ∧ w.heap.size + 1 ∈ T ∧ w.heap.size + 1 + 1 ∈ T ∧ w1.heap.size ∈ T ∧ w4.heap.size ∈ T ∧ Bn ∈ T ∧ p2 ∈ T) := by
    show _ ∧ _
    rw [hTd]; simp
  have HT1 : Hid ((∀ g, (Value.slice a4 L.length c4).ownBlock = some g → g ∈ T) ∧ (∀ g, vi.ownBlock = some g → g ∈ T) ∧ ∀ g, v2.ownBlock = some g → g ∈ T) := by
    show _ ∧ _
    rw [hTd]
    refine ⟨fun g hg => ?_, fun g hg => ?_, fun g hg => ?_⟩ <;> simp [hg]
  have HQ : Hid (Rq w Wz T p P Wz) := by
    refine ⟨fun _ _ => rfl, Nat.le_refl _, (HE5.out.trans hE6).below, v, L, HR5.out.keep0 hE6, HI.out, ?_, by omega, fun g hg => ⟨?_, by have := (HV.out g hg).1; omega⟩⟩
    · rw [hTd]
      simp only [List.mem_append, List.mem_cons, List.not_mem_nil, or_false, Option.mem_toList, not_or]
      refine ⟨⟨by omega, by omega, by omega, by omega, by omega, by omega, by omega⟩, fun h => ?_, fun h => ?_, fun h => ?_⟩
      · have := HV4.out _ h; omega
      · have := hni4 _ h; omega
      · have := HV2.out _ h; omega
    · have hgl := HV.out g hg
      rw [hTd]
      simp only [List.mem_append, List.mem_cons, List.not_mem_nil, or_false, Option.mem_toList, not_or]
      refine ⟨⟨by omega, by omega, by omega, by omega, by omega, by omega, by omega⟩, fun h => ?_, fun h => ?_, fun h => ?_⟩
      · have := HV4.out _ h; omega
      · have := hni4 _ h; omega
      · have := HV2.out _ h; omega
  have HF0 := hid (show Boxed Wz w.heap.size 3 _ from hE6.keep HD0.out (by simp))
  have HF1 := hid (show Boxed Wz (w.heap.size + 1) 3 _ from hE6.keep HD1.out (by simp))
  have HF2 := hid (show Boxed Wz (w.heap.size + 1 + 1) 4 _ from hE6.keep HD2.out (by simp))
  have HF3 := hid (show Boxed Wz w1.heap.size 24 _ from hE6.keep HD3.out (by simp))
  have HF4 := hid (show Boxed Wz w4.heap.size 34 _ from hE6.keep HD4.out (by simp))
  have HF5 := hid hBi
  have HLw := hid (HL5.out.keep0 hE6)
  have HLi := hid hLi
  have HRz := hid (HRo5.out.keep0 hE6)
  clear hTd HD0 HD1 HD2 HD3 HD4 HR5 HRo5 HL5 HE5 hBi hLi hBn hni hE6 d3 HV HV2 HV4 hni4 c3
  unfold itv
  gi_wp2_with fail
  refine wpIn_loop_two (fun r act W => ∃ (u15 u42 u43 u44 u45 u46 u68 u69 u70 u71 u72 u73 u74 u75 u76 : Value) (Ds : List Nat), act = { tmps := #[.int .i64 pages, .slice a n c, .int .i64 cut, .int .i64 m, undef, undef, .pointer (some ⟨w.heap.size, 0, none⟩), .pointer (some ⟨w.heap.size + 1, 0, none⟩), .pointer (some ⟨w.heap.size + 1 + 1, 0, none⟩), .pointer (some ⟨w1.heap.size, 0, none⟩), .pointer (some ⟨p2, 0, none⟩), .pointer (some ⟨w4.heap.size, 0, none⟩), .bool true, .func (.func 34) #[] #[.pointer (some ⟨Bn, 0, none⟩)], .int .i64 (r : Nat), u15, undef, undef, undef, .int .i64 pages, .slice a n c, .pointer (some ⟨p, 0, none⟩), .int .i64 pages, .slice a n c, .pointer (some ⟨p2, 0, none⟩), .bool true, .bool false, .bool false, .pointer (some ⟨p, 0, none⟩), .bool false, .bool false, .bool false, .pointer (some ⟨p2, 0, none⟩), .bool false, .bool false, .tuple #[.slice a4 L.length c4, .bool true], .pointer (some ⟨p, 0, none⟩), .tuple #[.slice a4 L.length c4, .bool true], .slice a4 L.length c4, .bool true, .pointer (some ⟨p, 0, none⟩), .func (.func 34) #[] #[.pointer (some ⟨Bn, 0, none⟩)], u42, u43, u44, u45, u46, undef, undef, undef, undef, undef, undef, undef, undef, undef, undef, undef, undef, undef, undef, undef, undef, undef, undef, undef, undef, undef, u68, u69, u70, u71, u72, u73, u74, u75, u76, undef, undef, undef, undef, undef, undef, undef, undef, undef, undef, undef, undef, undef, undef], defers := Ds.map mk } ∧ Rq w Wz T p P W ∧ Marks Ds W ∧ Ds.Nodup ∧ ∀ D ∈ Ds, D < W.heap.size ∧ Wz.heap.size ≤ D) ?start ?step ?fin
  case start =>
    exact ⟨undef, undef, undef, undef, undef, undef, undef, undef, undef, undef, undef, undef, undef, undef, undef, [], rfl, HQ.out, (fun D hD => by simp at hD), List.nodup_nil, (fun D hD => by simp at hD)⟩
  case step =>
    rintro r act wr hr2 ⟨u15, u42, u43, u44, u45, u46, u68, u69, u70, u71, u72, u73, u74, u75, u76, Ds, rfl, hQ, hM, hN, hDl⟩
    have HQr := hid hQ
    have HMr := hid hM
    have HNr := hid hN
    have HDl := hid hDl
    have hzr : Wz.heap.size ≤ wr.heap.size := hQ.size
    clear hQ hM hN hDl
    have hrr : (r : Int) < 2 := by omega
    gi_wp2_with fail
    have hEk := Ext.alloc [] wr (.cells #[.int .i64 0] 3)
    have hQ0 := HQr.out.ext0 HT.out hEk
    have bK := Boxed.new wr 3 (.int .i64 0)
    have hM0 : Marks Ds (wr.alloc (.cells #[.int .i64 0] 3)) := HMr.out.ext ((KeepsOthers.alloc _ _).from _)
    have hsz : (wr.alloc (.cells #[.int .i64 0] 3)).heap.size = wr.heap.size + 1 := by simp
    obtain ⟨W0, hW0⟩ : ∃ W0, wr.alloc (.cells #[.int .i64 0] 3) = W0 := ⟨_, rfl⟩
    rw [hW0] at hQ0 bK hM0 hsz ⊢
    have hwz2 : w.heap.size ≤ Wz.heap.size := HQ.out.below.size
    have hvT := HT1.out.2.1
    have hBT := HT0.out.2.2.2.2.2.1
    clear hW0 hEk
    refine wpIn_rangeFunc_ownH rfl (by omega) (gf := 34) (lb := #[.pointer (some ⟨Bn, 0, none⟩)]) rfl trivial (enters_of Try.func34 (by kernel_rfl) rfl)
      (each_stops Fence.wide _ trivial rfl (by omega) Bn vi L (by omega) W0 (hQ0.boxed HF5.out hBT) (hQ0.lst HLi.out hvT)) klK_t (klK_b (by have := HT.out Bn hBT; omega) (fun g hg => by have := HT.out g (hvT g hg); omega)) (Below.refl _ _) (fun _ => rfl)
      (fun pre W => ((Rq w Wz T p P W ∧ Boxed W wr.heap.size 3 (.int .i64 (pre.length : Nat))) ∧ Marks Ds W) ∧ Gd L cut pre)
      (fun cd pre W => (((Rq w Wz T p P W ∧ Boxed W wr.heap.size 3 (.int .i64 (pre.length : Nat))) ∧ Marks Ds W) ∧ (pre.length : Int) = cut ∧ cd = .exit 2) ∨ (cd = .ret ∧ NotPre L pre))
      (OwnFrom.and (OwnFrom.and (OwnFrom.and (rq_own HT.out hwz2 (by omega)) (Own.from (boxed_own _ _ _) _)) (marks_own (fun D hD => by have := (HDl.out D hD).1; omega))) (ownFrom_pure _ _))
      (fun cd pre X Y row hs hg hr => by
        rcases hs with ⟨⟨⟨h1, h2⟩, h3⟩, h4⟩ | h
        · exact .inl ⟨⟨⟨rq_own (β := Unit) HT.out hwz2 (B := W0.heap.size) (by omega) () X Y row h1 hg hr, boxed_own wr.heap.size 3 (fun _ : Unit => .int .i64 (pre.length : Nat)) () X Y row h2 hg (fun r e => (hr r e).2)⟩, marks_own (β := Unit) (B := W0.heap.size) (fun D hD => by have := (HDl.out D hD).1; omega) () X Y row h3 hg hr⟩, h4⟩
        · exact .inr h)
      ⟨⟨⟨hQ0, bK⟩, hM0⟩, gd_nil _ _⟩
      (fun x a' W => ∃ Bx, wr.heap.size < Bx ∧ W.heap[Bx]? = some (.cells #[.int .i64 x.s, .int .i64 x.n, .bool x.u] 42 (0, 0)) ∧ a' = { tmps := #[.int .i64 pages, .slice a n c, .int .i64 cut, .int .i64 m, undef, undef, .pointer (some ⟨w.heap.size, 0, none⟩), .pointer (some ⟨w.heap.size + 1, 0, none⟩), .pointer (some ⟨w.heap.size + 1 + 1, 0, none⟩), .pointer (some ⟨w1.heap.size, 0, none⟩), .pointer (some ⟨p2, 0, none⟩), .pointer (some ⟨w4.heap.size, 0, none⟩), .bool true, .func (.func 34) #[] #[.pointer (some ⟨Bn, 0, none⟩)], .int .i64 (r : Nat), .pointer (some ⟨wr.heap.size, 0, none⟩), .pointer (some ⟨Bx, 0, none⟩), undef, undef, .int .i64 pages, .slice a n c, .pointer (some ⟨p, 0, none⟩), .int .i64 pages, .slice a n c, .pointer (some ⟨p2, 0, none⟩), .bool true, .bool false, .bool false, .pointer (some ⟨p, 0, none⟩), .bool false, .bool false, .bool false, .pointer (some ⟨p2, 0, none⟩), .bool false, .bool false, .tuple #[.slice a4 L.length c4, .bool true], .pointer (some ⟨p, 0, none⟩), .tuple #[.slice a4 L.length c4, .bool true], .slice a4 L.length c4, .bool true, .pointer (some ⟨p, 0, none⟩), .func (.func 34) #[] #[.pointer (some ⟨Bn, 0, none⟩)], .int .i64 (r : Nat), .bool true, u44, u45, .func (.func 34) #[] #[.pointer (some ⟨Bn, 0, none⟩)], .agg #[.int .i64 x.s, .int .i64 x.n, .bool x.u], undef, undef, undef, undef, undef, undef, undef, undef, undef, undef, undef, undef, undef, undef, undef, undef, undef, undef, undef, undef, u68, u69, u70, u71, u72, u73, u74, u75, u76, undef, undef, undef, undef, undef, undef, undef, undef, undef, undef, undef, undef, undef, undef], defers := [] })
      (fun x a' _ X Y row hs hg hr => by obtain ⟨Bx, h1, h2, h3⟩ := hs; exact ⟨Bx, h1, rowAt_own Bx 42 (fun _ : Unit => #[.int .i64 x.s, .int .i64 x.n, .bool x.u]) () X Y row h2 hg (fun r e => (hr r e).2), h3⟩)
      ?assign ?body ?done ?stop
    case assign =>
      rintro l pre x W K ⟨⟨⟨hQ, bK1⟩, hM⟩, hG⟩ hK
      have hE := Ext.alloc [] W (.cells #[.int .i64 x.s, .int .i64 x.n, .bool x.u] 42)
      have hQ' := hQ.ext0 HT.out hE
      have HKx := hid hK
      have HX1 := hid (And.intro (And.intro (And.intro hQ' (bK1.alloc (.cells #[.int .i64 x.s, .int .i64 x.n, .bool x.u] 42))) (hM.ext ((KeepsOthers.alloc W (.cells #[.int .i64 x.s, .int .i64 x.n, .bool x.u] 42)).from _))) hG)
      have hbl := bK1.lt
      clear hK hQ hM hG hQ' hE bK1
      gi_wp2
      exact HKx.out _ _ ((KeepsOthers.alloc _ _).from _) (Kl.of_ext0 (Ext.alloc [] _ _)) HX1.out ⟨W.heap.size, hbl, heap_alloc_new _ _, rfl⟩
    case body =>
      rintro l pre x a' W hl ⟨lr, hlr⟩ ⟨⟨⟨hQ, bK1⟩, hM⟩, hG⟩ ⟨Bx, hBx, bX, rfl⟩ hlt
      obtain ⟨t0, t1, t2, t3, t4, _, _⟩ := HT0.out
      have cK := bK1.cell
      have cW := (hQ.boxed HF4.out t4).cell
      have cM := (hQ.boxed HF1.out t1).cell
      have cR := (hQ.boxed HF3.out t3).cell
      have c8 := (hQ.boxed HF2.out t2).cell
      have f8 := (hQ.boxed HF2.out t2).frozen
      have x0 : W.cell? ⟨Bx, 0, none⟩ = some (.int .i64 x.s) := by rw [cell_of_row _ _ _ _ _ _ bX]; rfl
      have x1 : W.cell? ⟨Bx, 1, none⟩ = some (.int .i64 x.n) := by rw [cell_of_row _ _ _ _ _ _ bX]; rfl
      have x2 : W.cell? ⟨Bx, 2, none⟩ = some (.bool x.u) := by rw [cell_of_row _ _ _ _ _ _ bX]; rfl
      obtain ⟨g4, c4', hv4, hz1, _, _, hcs⟩ := (hQ.lst HLw.out HT1.out.1).at_ (by omega)
      simp only [Value.slice.injEq, true_and] at hv4
      obtain ⟨rfl, rfl⟩ := hv4
      obtain ⟨y0, y1, y2⟩ := hcs pre.length hlt
      have HPn : Hid (x ≠ rnAt L pre.length → NotPre L (pre ++ [x])) := fun h => not_prefix hlt h
      have HPy : Hid (x = rnAt L pre.length → ((pre.length : Int) + 1) ≠ cut → Gd L cut (pre ++ [x])) := fun h1 h2 => gd_snoc hG hlt h1 h2
      have HPl : Hid ((pre ++ [x]).length = pre.length + 1) := by show _ = _; simp
      have HQ1 := hid hQ
      have HM1 := hid hM
      have HK1 := hid bK1
      clear hcs bX hlr hG hQ hM bK1 hz1
      generalize hpk : pre.length = k at *
      clear hpk
      generalize rnAt L k = y at *
      have hge : decide ((k : Int) ≥ (L.length : Int)) = false := by simp; omega
      have hq := fun W => neq_run x y W
      by_cases hxy : x = y
      · have HG2 := hid (HPy.out hxy)
        rw [show decide (x = y) = true by simp [hxy]] at hq
        simp only [Bool.not_true] at hq
        clear HPn HPy hxy
        gi_wp2_with fail
        apply wpIn_at (V := World.drew W)
        case h =>
          have hmix : Try.prog.follows .mixedOrders = true := by kernel_rfl
          gi_region_elder_o
          all_goals exact ⟨rfl, rfl, rfl⟩
        case hq =>
          have cM' : W.drew.cell? ⟨w.heap.size + 1, 0, none⟩ = _ := cM
          have cR' : W.drew.cell? ⟨w1.heap.size, 0, none⟩ = _ := cR
          have HQ2 := hid (HQ1.out.ext0 HT.out (Ext.drew [] W))
          have HK2 : Hid (Boxed W.drew wr.heap.size 3 _) := HK1
          have HM2 : Hid (Marks Ds W.drew) := HM1
          clear cM cR cK cW c8 f8 x0 x1 x2 y0 y1 y2
          gi_wp2_with fail
          refine ⟨trivial, ?_⟩
          refine (CallsIn.inRound l (callsIn_wide.2 (rq_alloc m HT.out HQ2.out))).mono ?_
          rintro e W5 ⟨⟨rr, rfl⟩, hQ5, hK5, hB5⟩
          have bK5 := hB5 _ _ _ (by decide) (by decide) HK2.out
          have cK5 := bK5.cell
          have fK5 := bK5.frozen
          have hkn : (k : Int) + 1 < 2000 := by omega
          have bC5 := hQ5.boxed HF0.out t0
          have HQ7 := hid (hQ5.set HT.out hwz2 bK5 hzr (.int .i64 ((k : Int) + 1)))
          have HB7 := hid (bK5.set (.int .i64 ((k : Int) + 1)))
          have cC7 : (W5.setCell ⟨wr.heap.size, 0, none⟩ (.int .i64 ((k : Int) + 1))).cell? ⟨w.heap.size, 0, none⟩ = _ := (HQ7.out.boxed HF0.out t0).cell
          have cK7 := HB7.out.cell
          have hEk : KeepsFrom W0.heap.size W (W5.setCell ⟨wr.heap.size, 0, none⟩ (.int .i64 ((k : Int) + 1))) := (((KeepsOthers.drew W).from W0.heap.size).trans (hK5 W0.heap.size)).trans ((KeepsOthers.setCell _ _ _).from _)
          have HEk := hid hEk
          have HM7 := hid (HM2.out.ext ((hK5 0).trans ((KeepsOthers.setCell W5 ⟨wr.heap.size, 0, none⟩ (.int .i64 ((k : Int) + 1))).from _)))
          clear hQ5 hK5 hB5 bK5 bC5 hEk
          by_cases hkc : (k : Int) + 1 = cut
          · have hkd : ((k : Int) + 1 == cut) = true := by simp [hkc]
            have HKC := hid hkc
            clear hkc
            gi_wp2_with fail
            exact ⟨HEk.out, .inl ⟨⟨⟨HQ7.out, by rw [HPl.out]; exact HB7.out⟩, HM7.out⟩, by rw [HPl.out]; exact HKC.out, rfl⟩⟩
          · have hkd : ((k : Int) + 1 == cut) = false := by simp [hkc]
            have HKC := hid hkc
            clear hkc
            gi_wp2_with fail
            exact ⟨HEk.out, HQ1.out.kl HQ7.out hBT hvT, ⟨⟨HQ7.out, by rw [HPl.out]; exact HB7.out⟩, HM7.out⟩, HG2.out HKC.out⟩
      · have HG2 := hid (HPn.out hxy)
        rw [show decide (x = y) = false by simp [hxy]] at hq
        simp only [Bool.not_false] at hq
        clear HPn HPy hxy
        gi_wp2_with fail
        apply wpIn_at (V := World.drew W)
        case h =>
          have hmix : Try.prog.follows .mixedOrders = true := by kernel_rfl
          gi_region_elder_o
          all_goals exact ⟨rfl, rfl, rfl⟩
        case hq =>
          gi_wp2_with fail
          exact ⟨((KeepsOthers.drew _).trans (KeepsOthers.setCell _ _ _)).from _, .inr ⟨rfl, HG2.out⟩⟩
    case done =>
      rintro D ys W hD rfl ⟨⟨⟨hQ, bK1⟩, hM⟩, hG⟩ hK
      obtain ⟨t0, t1, t2, t3, t4, _, _⟩ := HT0.out
      have cK := bK1.cell
      have cW := (hQ.boxed HF4.out t4).cell
      have HG2 : Hid (Rq w Wz T p P W ∧ Marks (D :: Ds) W ∧ (D :: Ds).Nodup ∧ ∀ D' ∈ (D :: Ds), D' < W.heap.size ∧ Wz.heap.size ≤ D') := by
        refine ⟨hQ, ?_, List.nodup_cons.2 ⟨fun h => by have := (HDl.out D h).1; omega, HNr.out⟩, ?_⟩
        · intro D' h'
          rcases List.mem_cons.1 h' with rfl | h'
          · exact hK
          · exact hM D' h'
        · intro D' h'
          rcases List.mem_cons.1 h' with rfl | h'
          · exact ⟨lt_of_heap hK, by omega⟩
          · exact ⟨lt_of_heap (hM D' h'), (HDl.out D' h').2⟩
      clear hQ hM hK hG hD bK1
      have hrr2 : (r : Int) + 1 ≤ 2 := by omega
      gi_wp2_with fail
      exact ⟨_, _, _, _, _, _, _, _, _, _, _, _, _, _, _, D :: Ds, rfl, HG2.out⟩
    case stop =>
      rintro D cd pre W hD hSp h hK
      rcases h with ⟨⟨⟨hQ, bK1⟩, hM⟩, hcut, rfl⟩ | ⟨rfl, hp⟩
      · obtain ⟨t0, t1, t2, t3, t4, _, _⟩ := HT0.out
        have cK := bK1.cell
        have cW := (hQ.boxed HF4.out t4).cell
        have cC := (hQ.boxed HF0.out t0).cell
        rw [← hcut] at cC
        have HG2 : Hid (Rq w Wz T p P W ∧ Marks (D :: Ds) W ∧ (D :: Ds).Nodup ∧ ∀ D' ∈ (D :: Ds), D' < W.heap.size ∧ Wz.heap.size ≤ D') := by
          refine ⟨hQ, ?_, List.nodup_cons.2 ⟨fun h => by have := (HDl.out D h).1; omega, HNr.out⟩, ?_⟩
          · intro D' h'
            rcases List.mem_cons.1 h' with rfl | h'
            · exact hK
            · exact hM D' h'
          · intro D' h'
            rcases List.mem_cons.1 h' with rfl | h'
            · exact ⟨lt_of_heap hK, by omega⟩
            · exact ⟨lt_of_heap (hM D' h'), (HDl.out D' h').2⟩
        have hpl : pre.length ≤ L.length := List.IsPrefix.length_le hSp
        clear hQ hM hK hD bK1 hSp hcut
        generalize pre.length = k at *
        have hrr2 : (r : Int) + 1 ≤ 2 := by omega
        by_cases hkl : k = L.length
        · subst hkl
          gi_wp2_with fail
          exact ⟨_, _, _, _, _, _, _, _, _, _, _, _, _, _, _, D :: Ds, rfl, HG2.out⟩
        · have hkd : decide ((k : Int) = (L.length : Int)) = false := by simp; omega
          gi_wp2_with fail
          exact ⟨_, _, _, _, _, _, _, _, _, _, _, _, _, _, _, D :: Ds, rfl, HG2.out⟩
      · exact absurd hSp hp
  case fin =>
    rintro act wr ⟨u15, u42, u43, u44, u45, u46, u68, u69, u70, u71, u72, u73, u74, u75, u76, Ds, rfl, hQ, hM, hN, hDl⟩
    obtain ⟨t0, t1, t2, t3, t4, t5, t6⟩ := HT0.out
    have hRo : Rs wr p2 v2 L := ⟨(hQ.keep p2 t6).trans HRz.out.box, hQ.lst HRz.out.row HT1.out.2.2⟩
    have K := told_any p2 v2 L wr hRo hLl
    have HQr := hid hQ
    have HMr := hid hM
    have HNr := hid hN
    have HDl := hid hDl
    clear hQ hM hN hDl hRo
    gi_wp2_with fail
    refine ⟨trivial, ?_⟩
    refine (callsIn_wide.2 K).mono ?_
    clear K
    rintro e W6 ⟨v6, rfl, hL6, hn6, hE6⟩
    obtain ⟨a6, c6, rfl, _⟩ := hL6.slice
    have hQ6 := HQr.out.ext0 HT.out hE6
    have cW := (hQ6.boxed HF4.out t4).cell
    have K := same_any _ _ L L W6 hL6 (hQ6.lst HLw.out HT1.out.1) (by omega)
    rw [show decide (L = L) = true by simp] at K
    have HQ6 := hid hQ6
    have HM6 : Hid (Marks Ds W6) := fun D hD => hE6.keep (HMr.out D hD) (by simp)
    clear hL6 hn6 hE6 hQ6
    gi_wp2_with fail
    refine ⟨trivial, ?_⟩
    refine (callsIn_wide.2 K).mono ?_
    clear K
    rintro e W7 ⟨rfl, hE7⟩
    have hQ7 := HQ6.out.ext0 HT.out hE7
    have hM7 : Marks Ds W7 := fun D hD => hE7.keep (HM6.out D hD) (by simp)
    have b8 := hQ7.boxed HF2.out t2
    have c8 := b8.cell
    have f8 := b8.frozen
    have HQ7 := hid hQ7
    have HM7 := hid hM7
    have HB8 := hid b8
    clear hE7 hQ7 hM7 b8
    gi_wp2_with fail
    refine leaves_marks Ds _ (HM7.out.ext ((KeepsOthers.setCell _ _ _).from _)) HNr.out (fun W' hX => ⟨.bool true, ?_, rfl, ?_⟩)
    · have b9 : Boxed W' (w.heap.size + 1 + 1) 4 (.bool true) := hX.keep (HB8.out.set _) (fun h => by have := (HDl.out _ h).2; have := HQ.out.below.size; omega)
      exact results_cell1 rfl _ _ ⟨w.heap.size + 1 + 1, 0, none⟩ _ rfl (load4 b9)
    · have hb := HQ7.out.below
      have hs := hX.size
      exact ⟨hX.os.trans hb.os, hX.tape.trans hb.tape, hX.output.trans hb.output, Nat.le_trans (by have := hb.size; simpa using this) hs, fun k hk _ => (hX.block k (by have := hb.size; simp; omega) (fun h => by have := (HDl.out _ h).2; have := HQ.out.below.size; omega)).trans ((Below.heap_setCell _ _ _ _ (by show k ≠ w.heap.size + 1 + 1; omega)).trans (hb.block k hk))⟩

end runsIters
end Go.Proofs.Ytkdgekdacinlhaa

namespace Go.Proofs.Ytkdgekdacinlhaa.runsIters
open Go.ChangeShapes Go.WideShapes Go.ChangeAt Go.RowKit

set_option maxRecDepth 100000 in
theorem lifted (os : Os) (started : os.Started) (H : Type) (enc : TypeId × Value → H) :
    ReturnsInHanded {} Try.checked os 7 .any (Rows.runsItersSpec.pre6 enc Try.prog Try.f7 Rows.runsItersRow.domain false) (Rows.runsItersSpec.post enc Try.prog Try.f7 false true false false) := by
  refine returnsInHanded_of_change_sized (C := Try.checked) own started (by kernel_rfl) Try.func7
    (ChangeSpec.witness6 (enc := enc) (C := Try.checked) false ⟨#[], #[.int .i64 0, .slice none 0 0, .int .i64 0, .int .i64 0], []⟩ 8 (by kernel_rfl) (by kernel_rfl) (by kernel_rfl) (by kernel_rfl)) ?_
  intro W base args ds gs before hval0 hW hcnd hsz0 _
  have hval : ∀ (j : Nat) t v, Try.f7.params[j]? = some t → args[j]? = some v → Value.okWide Try.prog W .any base t v := hval0
  have hW' := hW
  obtain ⟨p, q, hA0, hV, rfl, hfz, hnd⟩ := hW
  have hA : DataW.TrodAll enc Try.prog W 0 (fun _ => true) true Try.f7.params.toList args.toList ds p := hA0
  rw [Try.params7] at hA hval
  obtain ⟨v0, vs0, d0, ds0, p0, q0, hargs, rfl, rfl, h0, r0⟩ := trodAll_cons hA
  obtain ⟨v1, vs1, d1, ds1, p1, q1, rfl, rfl, rfl, h1, r1⟩ := trodAll_cons r0
  obtain ⟨v2, vs2, d2, ds2, p2, q2, rfl, rfl, rfl, h2, r2⟩ := trodAll_cons r1
  obtain ⟨v3, vs3, d3, ds3, p3, q3, rfl, rfl, rfl, h3, r3⟩ := trodAll_cons r2
  obtain ⟨rfl, rfl, rfl⟩ := trodAll_nil r3
  obtain rfl : args = #[v0, v1, v2, v3] := by cases args; simp_all
  obtain ⟨rfl, rfl⟩ := trodVars_none hV
  obtain ⟨a0, rfl, rfl, rfl, w0⟩ := open_int Try.underlying3 (hval 0 3 v0 rfl rfl) h0
  obtain ⟨a1, len1, cap1, rfl⟩ := okWide_slice Try.underlying22 (hval 1 22 v1 rfl rfl)
  have k1 := h1
  have lt1 : ∀ x ∈ p1, x.block < W.heap.size := by obtain ⟨m, hm⟩ := k1; exact DataW.trod_lt m _ _ _ hm
  obtain ⟨a2, rfl, rfl, rfl, w2⟩ := open_int Try.underlying3 (hval 2 3 v2 rfl rfl) h2
  obtain ⟨a3, rfl, rfl, rfl, w3⟩ := open_int Try.underlying3 (hval 3 3 v3 rfl rfl) h3
  have hsz : (DataW.weightsEach Try.prog [3, 22, 3, 3] [_, d1, _, _]).all (· ≤ reachBytes) = true := hsz0
  have hwd : ∀ y ∈ d1.weights Try.prog 22, y ≤ 140737488351232 := by
    intro y hy
    have := List.all_eq_true.1 hsz y (DataW.weights_mem_each (j := 1) (t := 22) rfl rfl y hy)
    have h2 := of_decide_eq_true this
    simpa [reachBytes] using h2
  obtain ⟨fuel, hf⟩ := h1
  obtain ⟨S, hS, hSn⟩ := open_script (n := len1) (c := cap1) hf hwd
  clear hA0 hval0
  refine (walk a0 a1 len1 cap1 S a2 a3 W hS hSn).mono fun e W' ⟨he, hext⟩ => ?_
  subst he
  have bel := hext.below
  exact ⟨_, rfl, _, _, _, [], _, [], hW', trodAll_mk1 (shut_bool Try.underlying4 _), (trodAll_cons_mk (shut_int Try.underlying3 w0) (trodAll_cons_mk (Below.trod laidOut (by kernel_rfl) (of_decide_eq_true (by kernel_rfl)) k1 bel lt1) (trodAll_cons_mk (shut_int Try.underlying3 w2) (trodAll_cons_mk (shut_int Try.underlying3 w3) trodAll_mk0)))), rfl, bel.frame _, fun h => by cases h⟩

theorem over : Rows.runsItersRow.holds Try.pinned (OpenSpec.ofChange Rows.runsItersSpec) :=
  OpenClaim.holds_of_wide 7 Try.f7 rfl rfl rfl rfl rfl rfl rfl ⟨rfl, rfl, rfl, rfl, rfl⟩ rfl rfl rfl rfl rfl (by kernel_rfl) Try.func7 (by kernel_rfl)
    (of_decide_eq_true (by kernel_rfl)) (by unfold Func.isWrapper; first | (rw [if_pos (by decide +kernel)]; kernel_rfl) | (rw [if_neg (by decide +kernel)]; exact ⟨rfl, rfl⟩))
    (fun os started H enc _ => lifted os started H enc)

end Go.Proofs.Ytkdgekdacinlhaa.runsIters

namespace Go.Proofs.Ytkdgekdacinlhaa
theorem runsIters_holds : Rows.RunsItersSaid := runsIters.over
#print axioms runsIters_holds
end Go.Proofs.Ytkdgekdacinlhaa
