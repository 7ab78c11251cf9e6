/-
  Iter, Largest, Take, Free, Calls: joined by program; no statement is proved here.
-/
import Derived.Test.YtbpjmcjjambdkaaGreatDoorZAI
import Derived.Lib.SliceRun
import Derived.Test.YtbpjmcjjambdkaaGreatDoorZAJ
import Derived.Deep.Cut
/-
  The iterator over a list of runs: what it gives a loop, and the calls that answer it; no statement is proved here.
-/
namespace Go.Proofs.YtbpjmcjjambdkaaGreatDoor
open Go.RowKit Go.Shelf

attribute [local go_sem] Oper.semAt_some

/-- What a loop's round must keep: the box of the iterator's list, and the list. -/
structure Kl (Bn : Nat) (v : Value) (A B : World) : Prop where
  box : ∀ o, A.heap[Bn]? = some o → B.heap[Bn]? = some o
  row : ∀ g, v.ownBlock = some g → ∀ o, A.heap[g]? = some o → B.heap[g]? = some o

theorem Kl.refl (Bn : Nat) (v : Value) (A : World) : Kl Bn v A A := ⟨fun _ h => h, fun _ _ _ h => h⟩
theorem Kl.trans {Bn : Nat} {v : Value} {A B C : World} (h : Kl Bn v A B) (k : Kl Bn v B C) : Kl Bn v A C :=
  ⟨fun o ho => k.box o (h.box o ho), fun g hg o ho => k.row g hg o (h.row g hg o ho)⟩
theorem Kl.lst {Bn : Nat} {v : Value} {A B : World} (h : Kl Bn v A B) {L : List Rn} (hl : Lst A v L) : Lst B v L := by
  refine ⟨hl.1, ?_⟩
  rcases hl.2 with q | ⟨g, cap, cur, rfl, h1, h2, h3⟩
  · exact .inl q
  · exact .inr ⟨g, cap, cur, rfl, h1, h.row g rfl _ h2, h3⟩
theorem Kl.boxed {Bn : Nat} {v : Value} {A B : World} (h : Kl Bn v A B) {t : TypeId} {u : Value} (hb : Boxed A Bn t u) : Boxed B Bn t u := h.box _ hb
theorem Kl.of_ext {Bn : Nat} {v : Value} {A B : World} {S : List Nat} (x : Ext S A B) (h1 : Bn ∉ S) (h2 : ∀ g, v.ownBlock = some g → g ∉ S) : Kl Bn v A B :=
  ⟨fun _ ho => x.keep ho h1, fun g hg _ ho => x.keep ho (h2 g hg)⟩
theorem Kl.of_ext0 {Bn : Nat} {v : Value} {A B : World} (x : Ext [] A B) : Kl Bn v A B := Kl.of_ext x (by simp) (by simp)
theorem klK_b {Bn : Nat} {v : Value} {w : World} (h1 : Bn < w.heap.size) (h2 : ∀ g, v.ownBlock = some g → g < w.heap.size) (W : World) (l : Nat) (o o' : Obj) (hl : w.heap.size ≤ l) (_ : W.heap[l]? = some o) (_ : o.isCells = false) (_ : o.isWalk = false) : Kl Bn v W (W.putObj l o') :=
  ⟨fun _ ho => (World.putObj_heap_other (by omega)).trans ho, fun g hg _ ho => (World.putObj_heap_other (by have := h2 g hg; omega)).trans ho⟩
theorem klK_t {Bn : Nat} {v : Value} {A B C : World} (h : Kl Bn v A B) (k : Kl Bn v B C) : Kl Bn v A C := h.trans k

set_option maxRecDepth 100000 in
set_option maxHeartbeats 2000000 in
/-- The iterator's body, for every loop body that keeps the iterator's list. -/
theorem each1_in (F : Fence) (n : Nat) (h34 : F.fn 187) (hro : F.round = none) (hn : 1 ≤ n) (l Bn : Nat) (v : Value) (L : List Rn) (hlen : L.length ≤ 1000000) (J Jx : List Rn → World → Prop) (B0 : Nat) (hJ : AbidesFrom B0 J)
    (hY : ∀ pre x W, J pre W → pre.length < L.length → YieldAt F (n - 1) Tryz.prog l #[.agg #[.int .i64 x.s, .int .i64 x.n, .bool x.u]] W fun e W' =>
      (e = .returned (.bool true) ∧ J (pre ++ [x]) W' ∧ Kl Bn v W W') ∨ (e = .returned (.bool false) ∧ Jx (pre ++ [x]) W'))
    (W : World) (hBn : Boxed W Bn 68 v) (hL : Lst W v L) (h0 : J [] W) :
    CallsIn F n Tryz.prog 187 #[.func (.yield l) #[] #[], .pointer (some ⟨Bn, 0, none⟩)] W fun e W' => (∃ v, e = .returned v) ∧
      ((∃ ys, ys = L ∧ J ys W') ∨ (∃ pre, pre <+: L ∧ Jx pre W')) := by
  obtain ⟨a, c, rfl, _⟩ := hL.slice
  have hc := hBn.cell
  have hbl := hBn.lt
  refine callsIn_of_wp Tryz.func187 rfl h34 ?_ hro
  simp only [Tryz.ntmps187, List.size_toArray, List.length_cons, List.length_nil, Nat.reduceAdd, Nat.reduceSub, Array.replicate_succ, Array.replicate_zero, List.push_toArray, List.append_toArray, List.nil_append, List.cons_append]
  have HL := hid hL
  have HB := hid hBn
  clear hL hBn
  gi_wp2
  gi_loopw [7] (fun q wr => ∃ k : Nat, q = .int .i64 k ∧ k ≤ L.length ∧ Lst wr (.slice a L.length c) L ∧ Boxed wr Bn 68 (.slice a L.length c) ∧ J (L.take k) wr) (fun q _ => (L.length - (intOf q)).toNat)
  case atStart => exact ⟨0, rfl, Nat.zero_le _, HL.out, HB.out, by simpa using h0⟩
  case round =>
    clear HL HB
    obtain ⟨k, rfl, hk, hL, hB, hJk⟩ := hrel
    have HL := hid hL
    have HB := hid hB
    have HJk := hid hJk
    clear hB hJk
    by_cases hlt : k < L.length
    · obtain ⟨g, c', hv, _, _, hg, hcs⟩ := hL.at_ (by omega)
      simp only [Value.slice.injEq, true_and] at hv
      obtain ⟨rfl, rfl⟩ := hv
      obtain ⟨c0, c1, c2⟩ := hcs k hlt
      have HM : Hid (L.take k ++ [rnAt L k] = L.take (k + 1)) := by
        show _ = _
        rw [List.take_add_one, rnAt_get hlt]; rfl
      obtain ⟨x, hx⟩ : ∃ x, x = rnAt L k := ⟨_, rfl⟩
      rw [← hx] at c0 c1 c2 HM
      clear hx hcs hL
      have hJ2 : J (L.take k) (wr.alloc (.cells #[.int .i64 x.s, .int .i64 x.n, .bool x.u] 129)) := hJ _ _ _ none HJk.out (World.grownBy_alloc _ _ _) (by simp)
      obtain ⟨fn, tmps, assign, body, hy, hR⟩ := hY (L.take k) x _ hJ2 (by simp; omega)
      clear hJ2
      gi_wp2
      refine hR.mono ?_
      rintro e W3 (⟨rfl, hJ3, hk3⟩ | ⟨rfl, hJx3⟩)
      · have hE := Ext.alloc [] wr (.cells #[.int .i64 x.s, .int .i64 x.n, .bool x.u] 129)
        have HL3 := hid (hk3.lst (HL.out.keep0 hE))
        have HB3 := hid (hk3.boxed (HB.out.alloc _))
        clear hE
        gi_wp2
        go_roundw
        case rel => exact ⟨k + 1, by go_num, by omega, HL3.out, HB3.out, by rw [← HM.out]; exact hJ3⟩
        case measure => simp [intOf]; omega
      · gi_wp2
        refine bodyPost_ret (results_none rfl _ _ _) rfl ?_
        exact ⟨⟨_, rfl⟩, .inr ⟨_, by rw [HM.out]; exact List.take_prefix _ _, hJx3⟩⟩
    · obtain rfl : k = L.length := by omega
      gi_wp2
      go_end0
      exact ⟨⟨_, rfl⟩, .inl ⟨L, rfl, by have := HJk.out; rwa [List.take_length] at this⟩⟩

/-- The iterator's contract. -/
theorem each_stops (F : Fence) (n : Nat) (h34 : F.fn 187) (hro : F.round = none) (hn : 1 ≤ n) (Bn : Nat) (v : Value) (L : List Rn) (hlen : L.length ≤ 1000000) (w : World) (hB : Boxed w Bn 68 v) (hL : Lst w v L) :
    SeqStopsK F n Tryz.prog 187 #[.pointer (some ⟨Bn, 0, none⟩)] (fun x : Rn => #[Value.agg #[.int .i64 x.s, .int .i64 x.n, .bool x.u]]) (Kl Bn v) (fun ys => ys = L) (fun pre => pre <+: L) L.length w := fun l J Jx W hW hJ _ hY h0 =>
  each1_in F n h34 hro hn l Bn v L hlen J Jx _ hJ hY W ((below_ext hW).keep hB (by simp)) (hL.keep0 (below_ext hW)) h0

/-- The iterator's value. -/
def itv (Bn : Nat) : Value := .func (.func 187) #[] #[.pointer (some ⟨Bn, 0, none⟩)]

theorem each_any (v : Value) (a : Option Addr) (n c : Nat) (hv : v = .slice a n c) (w : World) : Calls Tryz.prog 149 #[v] w fun e w' => e = .returned (itv w.heap.size) ∧ w' = w.alloc (.cells #[v] 68) := by
  subst hv
  go_enter Tryz.func149, Tryz.ntmps149
  go_wp2
  go_ret
  exact ⟨rfl, rfl⟩

theorem now_nil (w : World) : Calls Tryz.prog 208 #[.pointer none] w fun e w' => e = .returned (itv w.heap.size) ∧ w' = w.alloc (.cells #[.slice none 0 0] 68) := by
  go_enter Tryz.func208, Tryz.ntmps208
  go_wp2_with (go_at_call 149; refine (each_any _ _ _ _ rfl _).mono ?_; rintro e w' ⟨rfl, rfl⟩)
  go_ret
  exact ⟨rfl, rfl⟩

theorem now_any {T : TypeId} {ox : Nat} {cs : Array Value} (p : Nat) (v : Value) (L : List Rn) (w : World) (hR : Rs T ox cs w p v L) : Calls Tryz.prog 208 #[.pointer (some ⟨p, ox + 1, none⟩)] w fun e w' => e = .returned (itv w.heap.size) ∧ w' = w.alloc (.cells #[v] 68) := by
  obtain ⟨a, c, rfl, _⟩ := hR.row.slice
  have hc := hR.cell
  clear hR
  go_enter Tryz.func208, Tryz.ntmps208
  go_wp2_with (go_at_call 149; refine (each_any _ _ _ _ rfl _).mono ?_; rintro e w' ⟨rfl, rfl⟩)
  go_ret
  exact ⟨rfl, rfl⟩

/-- A copy of a list. -/
def ClPost (w : World) (L : List Rn) (e : Ending) (w' : World) : Prop :=
  ∃ v', e = .returned v' ∧ Lst w' v' L ∧ (∀ g, v'.ownBlock = some g → w.heap.size ≤ g) ∧ Ext [] w w'

theorem clone_any (v : Value) (L : List Rn) (w : World) (hL : Lst w v L) (hlen : L.length ≤ 1000000) : Calls Tryz.prog 150 #[v] w (ClPost w L) := by
  rcases id hL.2 with ⟨rfl, hn⟩ | ⟨g, cap, cur, rfl, h1, h2, h3, h4, h5, h6⟩
  · obtain rfl : L = [] := List.length_eq_zero_iff.1 hn
    clear hL hlen
    have heq : ∀ w, Sem.run Tryz.prog (binOp .eql 68 (.slice none 0 0) (.slice none 0 0)) w = .ok (.bool true) w := fun w => Lib.run_eql_slice_nil w 68 129 none 0 0 0 0 Tryz.underlying68
    go_enter Tryz.func150, Tryz.ntmps150
    go_wp2
    go_ret
    exact ⟨_, rfl, lst_nil _, by simp [Value.ownBlock], Ext.refl _ _⟩
  · have hE0 := Ext.alloc [] w (.cells #[] 129)
    obtain ⟨i, hi0, hz0, hz1, hz2⟩ := info_parts info129
    have hown : (w.alloc (.cells #[] 129)).ownsRow w.heap.size 129 3 (.slice (some ⟨w.heap.size, 0, none⟩) 0 0) 0 [] := World.ownsRow_made w #[] 0 (Nat.le_refl _) (Nat.zero_le _) rfl
    have hL0 := hL.keep0 hE0
    obtain ⟨v', w', hr, ho, hg, _⟩ := run_append_own (P := Tryz.prog) (w.alloc (.cells #[] 129)) w.heap.size 68 68 129 i _ 3 24 Tryz.underlying68 hi0 hz0 hz1 hz2 rfl (by decide) _ 0 [] hown ⟨g, 0, none⟩ L.length cap (rcells L) (rcells_len L) (fun j u hj => World.ownsRow.cells hL0 (g := g) rfl j u hj) (rcells_one' L) (by unfold maxLen; omega) (by omega) (by simp)
    rw [Nat.zero_add, List.nil_append] at ho
    have HF : Hid (ClPost w L (.returned v') w') := ⟨v', rfl, own_base ho (Nat.zero_le _), fun g hg => (own_lt ho g hg).1, (hE0.on (ext_grown hg) (by simp [Value.ownBlock]))⟩
    clear hL h1 h2 h3 h4 h5 h6 hE0 hown hL0 ho hg hz0 hz1 hz2 hi0
    generalize L.length = len at *
    have heq : ∀ w, Sem.run Tryz.prog (binOp .eql 68 (.slice (some ⟨g, 0, none⟩) len cap) (.slice none 0 0)) w = .ok (.bool false) w := fun w => Lib.run_eql_slice_nil w 68 129 (some ⟨g, 0, none⟩) len cap 0 0 Tryz.underlying68
    go_enter Tryz.func150, Tryz.ntmps150
    go_wp2_with (at_builtin; refine wpList_append_run rfl _ _ 68 rfl _ _ _ rfl rfl hr ?_)
    go_ret
    exact HF.out

/-- An iterator over a copy. -/
def AllPost (w : World) (L : List Rn) (e : Ending) (w' : World) : Prop :=
  ∃ Bn v, e = .returned (itv Bn) ∧ Boxed w' Bn 68 v ∧ Lst w' v L ∧ w.heap.size ≤ Bn ∧ (∀ g, v.ownBlock = some g → w.heap.size ≤ g) ∧ Ext [] w w'

theorem all_nil (w : World) : Calls Tryz.prog 105 #[.pointer none] w (AllPost w []) := by
  go_enter Tryz.func105, Tryz.ntmps105
  go_wp2_with (go_at_call 149; refine (each_any _ _ _ _ rfl _).mono ?_; rintro e w' ⟨rfl, rfl⟩)
  go_ret
  exact ⟨_, _, rfl, Boxed.new _ _ _, lst_nil _, Nat.le_refl _, by simp [Value.ownBlock], Ext.alloc _ _ _⟩

theorem all_any {T : TypeId} {ox : Nat} {cs : Array Value} (p : Nat) (v : Value) (L : List Rn) (w : World) (hR : Rs T ox cs w p v L) (hlen : L.length ≤ 1000000) : Calls Tryz.prog 105 #[.pointer (some ⟨p, ox + 1, none⟩)] w (AllPost w L) := by
  have K := clone_any v L w hR.row hlen
  have hc := hR.cell
  obtain ⟨a, c, rfl, _⟩ := hR.row.slice
  clear hR
  go_enter Tryz.func105, Tryz.ntmps105
  go_wp2_with fail
  refine K.mono ?_
  clear K
  rintro e w1 ⟨v', rfl, hL1, hn1, hE1⟩
  obtain ⟨a', c', rfl, _⟩ := hL1.slice
  have HF : Hid (AllPost w L (.returned (itv w1.heap.size)) (w1.alloc (.cells #[.slice a' L.length c'] 68))) :=
    ⟨_, _, rfl, Boxed.new _ _ _, hL1.keep0 (Ext.alloc _ _ _), hE1.size, hn1, hE1.trans (Ext.alloc _ _ _)⟩
  clear hL1 hn1 hE1
  go_wp2_with (go_at_call 149; refine (each_any _ _ _ _ rfl _).mono ?_; rintro e w' ⟨rfl, rfl⟩)
  go_ret
  exact HF.out

end Go.Proofs.YtbpjmcjjambdkaaGreatDoor

/-
  Largest: the longest free run; no statement is proved here.
-/
namespace Go.Proofs.YtbpjmcjjambdkaaGreatDoor
open Go.RowKit Go.Shelf

attribute [local go_sem] Oper.semAt_some

/-- The length of the longest free run. -/
def big (L : List Rn) : Nat := L.foldl (fun m r => if r.u then m else max m r.n) 0
theorem big_snoc (L : List Rn) (r : Rn) : big (L ++ [r]) = if r.u then big L else max (big L) r.n := by simp [big]

theorem rowAt_own {β : Type} (B : Nat) (t : TypeId) (cs : β → Array Value) : Own (fun s W => W.heap[B]? = some (.cells (cs s) t (0, 0))) := fun s X Y row hs hg hrow => by
  refine (hg.block B (Array.getElem?_eq_some_iff.1 hs).1 (fun e => ?_)).trans hs
  obtain ⟨o, ho, hc⟩ := hrow B e.symm
  rw [hs] at ho; cases ho; cases hc

/-- What a call of the program's own iterator answers. -/
def NowOf (w : World) (pv : Option Addr) (v : Value) : Prop := ∀ W, Ext [] w W → Calls Tryz.prog 208 #[.pointer pv] W fun e w' => e = .returned (itv W.heap.size) ∧ w' = W.alloc (.cells #[v] 68)
theorem nowOf_nil (w : World) : NowOf w none (.slice none 0 0) := fun W _ => now_nil W
theorem nowOf_any {T : TypeId} {ox : Nat} {cs : Array Value} {w : World} {p : Nat} {v : Value} {L : List Rn} (hR : Rs T ox cs w p v L) : NowOf w (some ⟨p, ox + 1, none⟩) v := fun W h => now_any p v L W (hR.keep0 h)

set_option maxRecDepth 100000 in
set_option maxHeartbeats 4000000 in
theorem largest_of (pv : Option Addr) (v : Value) (L : List Rn) (w : World) (hN : NowOf w pv v) (hL : Lst w v L) (hlen : L.length ≤ 1000000) : Calls Tryz.prog 190 #[.pointer pv] w (SayPost w (.int .i64 (big L))) := by
  refine (callsIn_wide (n := 8)).1 ?_
  refine callsIn_of_wp_marks Tryz.func190 rfl trivial ?_ rfl
  simp only [Tryz.ntmps190, List.size_toArray, List.length_cons, List.length_nil, Nat.reduceAdd, Nat.reduceSub, Array.replicate_succ, Array.replicate_zero, List.push_toArray, List.append_toArray, List.nil_append, List.cons_append]
  have hlt := hL.lt
  have K := hN _ (Ext.alloc [] w (.cells #[.int .i64 0] 3))
  have HL := hid hL
  clear hL hN
  gi_wp2_with (refine ⟨trivial, ?_⟩; gi_at_call 208; refine (callsIn_wide.2 K).mono ?_; rintro e w' ⟨rfl, rfl⟩)
  clear K
  have bS := (Boxed.new w 3 (.int .i64 0)).alloc (.cells #[v] 68)
  have bN := Boxed.new (w.alloc (.cells #[.int .i64 0] 3)) 68 v
  rw [World.size_alloc] at bN
  have hE0 : Ext [] w ((w.alloc (.cells #[.int .i64 0] 3)).alloc (.cells #[v] 68)) := (Ext.alloc [] _ _).trans (Ext.alloc [] _ _)
  have hsz : ((w.alloc (.cells #[.int .i64 0] 3)).alloc (.cells #[v] 68)).heap.size = w.heap.size + 2 := by simp
  obtain ⟨W0, hW0⟩ : ∃ W0, (w.alloc (.cells #[.int .i64 0] 3)).alloc (.cells #[v] 68) = W0 := ⟨_, rfl⟩
  rw [hW0] at bS bN hE0 hsz ⊢
  clear hW0
  have hL0 := HL.out.keep0 hE0
  refine wpIn_rangeFunc_ownH rfl (by omega) (gf := 187) (lb := #[.pointer (some ⟨w.heap.size + 1, 0, none⟩)]) rfl trivial (enters_of Tryz.func187 (by kernel_rfl) rfl)
    (each_stops Fence.wide _ trivial rfl (by omega) (w.heap.size + 1) v L hlen W0 bN hL0) klK_t (klK_b (by omega) (fun g hg => by have := hlt g hg; omega)) (Below.refl _ _) (fun _ => rfl)
    (fun pre W => Boxed W w.heap.size 3 (.int .i64 (big pre)) ∧ Below w.heap.size w W)
    (fun _ _ _ => False)
    (OwnFrom.and (Own.from (boxed_own _ _ _) _) (ownFrom_below (Nat.le_refl _) (by omega)))
    (fun _ _ _ _ _ hs _ _ => hs)
    ⟨bS, hE0.below⟩
    (fun x a' W => ∃ Bx, w.heap.size < Bx ∧ W.heap[Bx]? = some (.cells #[.int .i64 x.s, .int .i64 x.n, .bool x.u] 129 (0, 0)) ∧ a' = { tmps := #[.pointer pv, undef, .int .i64 0, .pointer (some ⟨w.heap.size, 0, none⟩), .pointer (some ⟨Bx, 0, none⟩), .pointer pv, itv (w.heap.size + 1), .agg #[.int .i64 x.s, .int .i64 x.n, .bool x.u], undef, undef, undef, undef, undef, undef, undef, undef], defers := [] })
    (fun x a' _ X Y row hs hg hr => by obtain ⟨Bx, h1, h2, h3⟩ := hs; exact ⟨Bx, h1, rowAt_own Bx 129 (fun _ : Unit => #[.int .i64 x.s, .int .i64 x.n, .bool x.u]) () X Y row h2 hg (fun r e => (hr r e).2), h3⟩)
    ?assign ?body ?done ?stop
  case assign =>
    rintro l pre x W K ⟨bS1, hB1⟩ hK
    gi_wp2
    exact hK _ _ ((KeepsOthers.alloc _ _).from _) (Kl.of_ext0 (Ext.alloc [] _ _)) ⟨bS1.alloc _, hB1.alloc hB1.size _⟩ ⟨W.heap.size, bS1.lt, heap_alloc_new _ _, rfl⟩
  case body =>
    rintro l pre x a' W hl ⟨r, hr⟩ ⟨bS1, hB1⟩ ⟨Bx, hBx, bX, rfl⟩ _
    have cS := bS1.cell
    have fS := bS1.frozen
    have c1 : W.cell? ⟨Bx, 1, none⟩ = some (.int .i64 x.n) := by rw [cell_of_row _ _ _ _ _ _ bX]; rfl
    have c2 : W.cell? ⟨Bx, 2, none⟩ = some (.bool x.u) := by rw [cell_of_row _ _ _ _ _ _ bX]; rfl
    have HS := big_snoc pre x
    have HB := hid bS1
    clear bS1
    cases hu : x.u
    · rw [hu] at c2 HS
      have HS2 : Hid (big (pre ++ [x]) = max (big pre) x.n) := by simp at HS; exact HS
      clear HS hu
      have hKl : ∀ u, Kl (w.heap.size + 1) v W (W.setCell ⟨w.heap.size, 0, none⟩ u) := fun u => Kl.of_ext (Ext.setCell [w.heap.size] _ _ _ (by simp)) (by simp) (fun g hg => by have := hlt g hg; simp; omega)
      gi_wp2
      · exact ⟨(KeepsOthers.setCell _ _ _).from _, hKl _, by rw [HS2.out, show max (big pre) x.n = x.n by omega]; exact HB.out.set _, hB1.setCell (p := ⟨w.heap.size, 0, none⟩) (Nat.le_refl _) _⟩
      · exact ⟨(KeepsOthers.setCell _ _ _).from _, hKl _, by rw [HS2.out, show max (big pre) x.n = big pre by omega]; exact HB.out.set _, hB1.setCell (p := ⟨w.heap.size, 0, none⟩) (Nat.le_refl _) _⟩
    · rw [hu] at c2 HS
      have HS2 : Hid (big (pre ++ [x]) = big pre) := by simp at HS; exact HS
      clear HS hu
      gi_wp2
      exact ⟨KeepsFrom.refl _ _, Kl.refl _ _ _, by rw [HS2.out]; exact HB.out, hB1⟩
  case done =>
    rintro D zs W hD rfl ⟨bS1, hB1⟩ hK
    have cS := bS1.cell
    gi_wp2
    refine ⟨by simp, .inl ⟨_, _, rfl, run_takeDeferred hK, ?_⟩⟩
    exact ⟨_, results_tmp rfl _ _ _, rfl, below_ext (hB1.trans (belowK_b (w := w) (Nat.le_refl _) W D _ _ (by omega) hK rfl rfl))⟩
  case stop =>
    rintro D c pre W _ _ h _
    exact h.elim

end Go.Proofs.YtbpjmcjjambdkaaGreatDoor

/-
  take, release, Alloc and Free: how a list of runs turns; no statement is proved here.
-/
namespace Go.Proofs.YtbpjmcjjambdkaaGreatDoor
open Go.RowKit

/-- One cell of a row of one's own is written. -/
theorem own_set {w : World} {base : Nat} {e : TypeId} {s n g c : Nat} {xs : List Value} (h : w.ownsRow base e s (.slice (some ⟨g, 0, none⟩) n c) n xs) (i : Nat) (v : Value) : (w.setCell ⟨g, i, none⟩ v).ownsRow base e s (.slice (some ⟨g, 0, none⟩) n c) n (xs.set i v) := by
  refine ⟨by rw [List.length_set]; exact h.1, ?_⟩
  rcases h.2 with ⟨h1, _⟩ | ⟨g', cap, cur, h0, h1, h2, h3, h4, h5, h6⟩
  · cases h1
  · cases h0
    refine .inr ⟨g, c, cur.setIfInBounds i v, rfl, h1, heap_setCell_same w g i _ _ _ h2, h3, h4, by simpa using h5, ?_⟩
    rw [Array.toList_setIfInBounds, List.take_set, h6]

theorem rcells_set (y : Rn) : ∀ (L : List Rn) (i : Nat), i < L.length → (((rcells L).set (i * 3) (.int .i64 y.s)).set (i * 3 + 1) (.int .i64 y.n)).set (i * 3 + 2) (.bool y.u) = rcells (L.set i y)
  | [], i, h => by simp at h
  | r :: L, 0, _ => by simp [rcells_cons, Rn.cells]
  | r :: L, i + 1, h => by
    have ih := rcells_set y L i (by simpa using h)
    rw [List.set_cons_succ, rcells_cons, rcells_cons, ← ih]
    simp only [Rn.cells]
    rw [show (i + 1) * 3 = i * 3 + 3 by omega]
    simp [Nat.add_assoc]

theorem Lst.set {w : World} {g c : Nat} {L : List Rn} (h : Lst w (.slice (some ⟨g, 0, none⟩) L.length c) L) {i : Nat} (hi : i < L.length) (y : Rn) :
    Lst (((w.setCell ⟨g, i * 3, none⟩ (.int .i64 y.s)).setCell ⟨g, i * 3 + 1, none⟩ (.int .i64 y.n)).setCell ⟨g, i * 3 + 2, none⟩ (.bool y.u)) (.slice (some ⟨g, 0, none⟩) L.length c) (L.set i y) := by
  have h3 := own_set (own_set (own_set h (i * 3) (.int .i64 y.s)) (i * 3 + 1) (.int .i64 y.n)) (i * 3 + 2) (.bool y.u)
  rw [rcells_set y L i hi] at h3
  unfold Lst
  rw [List.length_set]
  exact h3

/-- How pages have turned. -/
def TkPost (T : TypeId) (ox : Nat) (cs : Array Value) (w : World) (p : Nat) (v : Value) (L' : List Rn) (e : Ending) (w' : World) : Prop :=
  ∃ v', e = .returned (.tuple #[]) ∧ Rs T ox cs w' p v' L' ∧ OldNew w v v' ∧ Ext (p :: v.ownBlock.toList) w w'

theorem tk_fin {T : TypeId} {ox : Nat} {cs : Array Value} {w wa w2 : World} {p : Nat} {v v' : Value} {L' : List Rn} (hb2 : Bx T ox cs w2 p (v)) (hL2 : Lst w2 v' L') (hON : OldNew wa v v') (hwa : w.heap.size ≤ wa.heap.size) (hX2 : Ext (p :: v.ownBlock.toList) w w2) : TkPost T ox cs w p v L' (.returned (.tuple #[])) (w2.setCell ⟨p, ox + 1, none⟩ v') :=
  ⟨v', rfl, ⟨hset3 hb2 v', hL2.keep (Ext.setCell [p] _ _ _ (by simp)) (by simpa using own_ne hL2 hb2.at_ hb2.ty)⟩, hON.imp id (fun h g hg => by have := h g hg; omega), hX2.trans (Ext.setCell _ _ _ _ (by simp))⟩

def takeL (L : List Rn) (i n : Nat) : List Rn :=
  L.take i ++ [⟨(rnAt L i).s, n, true⟩] ++ (if n < (rnAt L i).n then [⟨(rnAt L i).s + n, (rnAt L i).n - n, false⟩] else []) ++ L.drop (i + 1)

theorem set_eq (L : List Rn) (i : Nat) (h : i < L.length) (y : Rn) : L.set i y = L.take i ++ [y] ++ L.drop (i + 1) := by
  rw [List.set_eq_take_append_cons_drop, if_pos h]; simp

set_option maxRecDepth 100000 in
set_option maxHeartbeats 4000000 in
theorem take_any {T : TypeId} {ox : Nat} {cs : Array Value} (p i n : Nat) (v : Value) (L : List Rn) (w : World) (hR : Rs T ox cs w p v L) (hi : i < L.length) (hb : (rnAt L i).s + (rnAt L i).n ≤ 1024) (hlen : L.length ≤ 10000) :
    Calls Tryz.prog 211 #[.pointer (some ⟨p, ox + 1, none⟩), .int .i64 i, .int .i64 n] w (TkPost T ox cs w p v (takeL L i n)) := by
  obtain ⟨g, c, rfl, hnc, hcm, hgl, hcs⟩ := hR.row.at_ (by omega)
  obtain ⟨c0, c1, c2⟩ := hcs i hi
  have hc := hR.cell
  have hpg : p ≠ g := by rintro rfl; exact hR.ne rfl
  obtain ⟨x, hx⟩ : ∃ x, x = rnAt L i := ⟨_, rfl⟩
  rw [← hx] at c0 c1 c2 hb
  have hpl := hR.lt
  -- the row behind the first store
  have HW1 : Hid (∀ W1, W1 = ((((w.setCell ⟨g, i * 3, none⟩ (.int .i64 x.s)).setCell ⟨g, i * 3 + 1, none⟩ (.int .i64 n)).setCell ⟨g, i * 3 + 2, none⟩ (.bool true)).alloc (.cells #[.int .i64 x.s, .int .i64 x.n, .bool x.u] 129)).drew → Rs T ox cs W1 p (.slice (some ⟨g, 0, none⟩) L.length c) (L.set i ⟨x.s, n, true⟩) ∧ One W1 w.heap.size x ∧ Ext [g] w W1) := by
    rintro W1 rfl
    have e1 : Ext [g] w (((w.setCell ⟨g, i * 3, none⟩ (.int .i64 x.s)).setCell ⟨g, i * 3 + 1, none⟩ (.int .i64 n)).setCell ⟨g, i * 3 + 2, none⟩ (.bool true)) := ((Ext.setCell [g] w _ _ (by simp)).trans (Ext.setCell [g] _ _ _ (by simp))).trans (Ext.setCell [g] _ _ _ (by simp))
    have e2 := (Ext.alloc [] (((w.setCell ⟨g, i * 3, none⟩ (.int .i64 x.s)).setCell ⟨g, i * 3 + 1, none⟩ (.int .i64 n)).setCell ⟨g, i * 3 + 2, none⟩ (.bool true)) (.cells #[.int .i64 x.s, .int .i64 x.n, .bool x.u] 129)).trans (Ext.drew [] _)
    have hl := hR.row.set hi ⟨x.s, n, true⟩
    refine ⟨⟨(hR.box.keep e1 (by simpa using hpg)).keep e2 (by simp), hl.keep0 e2⟩, ?_, e1.trans (e2.mono (by simp))⟩
    have := heap_alloc_new (((w.setCell ⟨g, i * 3, none⟩ (.int .i64 x.s)).setCell ⟨g, i * 3 + 1, none⟩ (.int .i64 n)).setCell ⟨g, i * 3 + 2, none⟩ (.bool true)) (.cells #[.int .i64 x.s, .int .i64 x.n, .bool x.u] 129)
    have hs : (((w.setCell ⟨g, i * 3, none⟩ (.int .i64 x.s)).setCell ⟨g, i * 3 + 1, none⟩ (.int .i64 n)).setCell ⟨g, i * 3 + 2, none⟩ (.bool true)).heap.size = w.heap.size := by simp
    rw [hs] at this
    exact this
  have fg : ∀ j, w.frozen? ⟨g, j, none⟩ = false := fun j => by
    rcases hR.row.2 with ⟨h0, _⟩ | ⟨g', c', cur, hv, _, hg, _⟩
    · cases h0
    · simp only [Value.slice.injEq, Option.some.injEq, Addr.mk.injEq, and_true, true_and] at hv
      obtain ⟨rfl, rfl⟩ := hv
      exact frozen_of_row _ _ _ _ _ hg
  have f0 := fg (i * 3)
  have f1 := fg (i * 3 + 1)
  have f2 := fg (i * 3 + 2)
  unfold maxLen at hcm
  have HR := hid hR
  have HX := hid hx
  clear hR hx hcs fg
  generalize hl : L.length = len at *
  have HLen := hid hl
  clear hl
  go_enter Tryz.func211, Tryz.ntmps211
  go_wp2_with fail
  go_region
  obtain ⟨W1, hW1⟩ : ∃ W1, W1 = ((((w.setCell ⟨g, i * 3, none⟩ (.int .i64 x.s)).setCell ⟨g, i * 3 + 1, none⟩ (.int .i64 n)).setCell ⟨g, i * 3 + 2, none⟩ (.bool true)).alloc (.cells #[.int .i64 x.s, .int .i64 x.n, .bool x.u] 129)).drew := ⟨_, rfl⟩
  obtain ⟨hR1, hO1, hX1⟩ := HW1.out W1 hW1
  rw [← hW1]
  clear hW1 HW1 c0 c1 c2 f0 f1 f2
  have hwl : w.heap.size < W1.heap.size := lt_of_heap hO1
  have d0 : W1.cell? ⟨w.heap.size, 0, none⟩ = some (.int .i64 x.s) := by rw [cell_of_row _ _ _ _ _ _ hO1]; rfl
  have d1 : W1.cell? ⟨w.heap.size, 1, none⟩ = some (.int .i64 x.n) := by rw [cell_of_row _ _ _ _ _ _ hO1]; rfl
  have e0 := hR1.cell
  have ef := hR1.frozen
  have hpl1 := hR1.lt
  have HR1 := hid hR1
  have HX1 := hid hX1
  have HO1 := hid hO1
  clear hR1 hX1 hO1 hc
  by_cases hlt : n < x.n
  · have hE2 : Ext [] W1 (W1.alloc (.cells #[.int .i64 ((x.s : Int) + n), .int .i64 ((x.n : Int) - n), .bool false] 129)).drew := (Ext.alloc [] _ _).trans (Ext.drew [] _)
    have hy : One (W1.alloc (.cells #[.int .i64 ((x.s : Int) + n), .int .i64 ((x.n : Int) - n), .bool false] 129)).drew W1.heap.size ⟨x.s + n, x.n - n, false⟩ := by
      have := heap_alloc_new W1 (.cells #[.int .i64 ((x.s : Int) + n), .int .i64 ((x.n : Int) - n), .bool false] 129)
      unfold One
      rw [show ((x.s + n : Nat) : Int) = (x.s : Int) + n by omega, show ((x.n - n : Nat) : Int) = (x.n : Int) - n by omega]
      exact this
    have hLl : (L.set i ⟨x.s, n, true⟩).length = len := by rw [List.length_set, HLen.out]
    have K := insert_any (.slice (some ⟨g, 0, none⟩) len c) (i + 1) (L.set i ⟨x.s, n, true⟩) _ (HR1.out.row.keep0 hE2) (by omega) (by omega) (by omega) W1.heap.size _ hy (by
      intro h
      have := (own_lt HR1.out.row _ h).2
      omega)
    rw [show ((i + 1 : Nat) : Int) = (i : Int) + 1 by omega] at K
    have HB : Hid (∀ w2, Ext [g] (W1.alloc (.cells #[.int .i64 ((x.s : Int) + n), .int .i64 ((x.n : Int) - n), .bool false] 129)).drew w2 → Bx T ox cs w2 p (.slice (some ⟨g, 0, none⟩) len c) ∧ Ext [p, g] w w2) := fun w2 h =>
      ⟨(HR1.out.box.keep hE2 (by simp)).keep h (by simpa using hpg), (((HX1.out.trans (hE2.mono (by simp))).trans h).mono (by simp))⟩
    have HL' : Hid ((L.set i ⟨x.s, n, true⟩).take (i + 1) ++ [⟨x.s + n, x.n - n, false⟩] ++ (L.set i ⟨x.s, n, true⟩).drop (i + 1) = takeL L i n) := by
      show _ = _
      have hl : i < L.length := by rw [HLen.out]; exact hi
      unfold takeL
      rw [← HX.out, if_pos hlt, set_eq L i hl]
      rw [List.take_left' (by simp; omega), List.drop_left' (by simp; omega)]
    clear hy hE2 hLl
    have hw2 : IntKind.i64.wrap ((i : Int) + 1) = (i : Int) + 1 := by rw [IntKind.wrap_i64]; omega
    have hw3 : IntKind.i64.wrap ((x.s : Int) + n) = (x.s : Int) + n := by rw [IntKind.wrap_i64]; omega
    have hw4 : IntKind.i64.wrap ((x.n : Int) - n) = (x.n : Int) - n := by rw [IntKind.wrap_i64]; omega
    go_wp2_with fail
    go_region_law (go_simp; go_wp2_with (first | (go_at_call 214; refine K.mono ?_; clear K; rintro e w2 ⟨v', rfl, hL2, hON, hE3⟩; obtain ⟨hb2, hX2⟩ := HB.out w2 hE3; have k0 : w2.cell? ⟨p, ox + 1, none⟩ = some (.slice (some ⟨g, 0, none⟩) len c) := hcell3 hb2; have kf := frozen_of_row w2 p (ox + 1) _ _ hb2.at_; obtain ⟨a', c', hv', _⟩ := hL2.slice; rw [HL'.out] at hL2 hv'; subst hv')))
    all_goals
      go_end0
      exact tk_fin hb2 hL2 hON (by simp; omega) hX2
  · have HF : Hid (TkPost T ox cs w p (.slice (some ⟨g, 0, none⟩) len c) (takeL L i n) (.returned (.tuple #[])) W1) := by
      refine ⟨_, rfl, ?_, .inl rfl, HX1.out.mono (by simp [Value.ownBlock])⟩
      have := HR1.out
      rw [set_eq L i (by rw [HLen.out]; exact hi)] at this
      unfold takeL
      rw [← HX.out, if_neg hlt, List.append_nil]
      exact this
    go_wp2_with fail
    go_end0
    exact HF.out

end Go.Proofs.YtbpjmcjjambdkaaGreatDoor

/-
  release: a run is given back and joined with its neighbours; no statement is proved here.
-/
namespace Go.Proofs.YtbpjmcjjambdkaaGreatDoor
open Go.RowKit

/-- The first run that is joined, and the first behind the last. -/
def relF (L : List Rn) (i : Nat) : Nat := if 0 < i ∧ (rnAt L (i - 1)).u = false then i - 1 else i
def relE (L : List Rn) (i : Nat) : Nat := if i + 1 < L.length ∧ (rnAt L (i + 1)).u = false then i + 2 else i + 1
/-- The pages of the first k runs of a list. -/
def sumTo (L : List Rn) : Nat → Nat
  | 0 => 0
  | k + 1 => sumTo L k + (rnAt L k).n
def relJ (L : List Rn) (i : Nat) : Rn := ⟨(rnAt L (relF L i)).s, sumTo (L.drop (relF L i)) (relE L i - relF L i), false⟩
def relL (L : List Rn) (i : Nat) : List Rn := L.take (relF L i) ++ [relJ L i] ++ L.drop (relE L i)

theorem relF_le (L : List Rn) (i : Nat) : relF L i ≤ i := by unfold relF; split <;> omega
theorem relE_gt (L : List Rn) (i : Nat) : i < relE L i := by unfold relE; split <;> omega
theorem relE_le (L : List Rn) (i : Nat) (h : i < L.length) : relE L i ≤ L.length := by unfold relE; split <;> omega
theorem rnAt_drop (L : List Rn) (f k : Nat) : rnAt (L.drop f) k = rnAt L (f + k) := by simp [rnAt, List.getD]

/-- All runs of a list hold few pages. -/
def Few (L : List Rn) : Prop := ∀ k, k ≤ L.length → ∀ f, f ≤ k → sumTo (L.drop f) (k - f) ≤ 1024

set_option maxRecDepth 100000 in
set_option maxHeartbeats 4000000 in
theorem release_any {T : TypeId} {ox : Nat} {cs : Array Value} (p i : Nat) (v : Value) (L : List Rn) (w : World) (hR : Rs T ox cs w p v L) (hi : i < L.length) (hf : Few L) (hlen : L.length ≤ 10000) :
    Calls Tryz.prog 188 #[.pointer (some ⟨p, ox + 1, none⟩), .int .i64 i] w (TkPost T ox cs w p v (relL L i)) := by
  obtain ⟨g, c, rfl, hnc, hcm, hgl, hcs⟩ := hR.row.at_ (by omega)
  have hc := hR.cell
  have hpg : p ≠ g := by rintro rfl; exact hR.ne rfl
  have hpl := hR.lt
  have HR := hid hR
  have HC := hid hcs
  unfold maxLen at hcm
  clear hR hcs
  have HFF : Hid (∀ b, (0 < i ∧ (rnAt L (i - 1)).u = false → b = i - 1) → (¬ (0 < i ∧ (rnAt L (i - 1)).u = false) → b = i) → b = relF L i) := fun b h1 h2 => by
    unfold relF; split
    · exact h1 ‹_›
    · exact h2 ‹_›
  have HEE : Hid (∀ b, (i + 1 < L.length ∧ (rnAt L (i + 1)).u = false → b = i + 2) → (¬ (i + 1 < L.length ∧ (rnAt L (i + 1)).u = false) → b = i + 1) → b = relE L i) := fun b h1 h2 => by
    unfold relE; split
    · exact h1 ‹_›
    · exact h2 ‹_›
  have hfl := relF_le L i
  have hel := relE_gt L i
  have heu := relE_le L i hi
  have HFew := hid hf
  have HRL : Hid (relL L i = L.take (relF L i) ++ [⟨(rnAt L (relF L i)).s, sumTo (L.drop (relF L i)) (relE L i - relF L i), false⟩] ++ L.drop (relE L i)) := rfl
  clear hf
  generalize relF L i = f at *
  generalize relE L i = e at *
  generalize relL L i = L' at *
  generalize hl : L.length = len at *
  have HLen := hid hl
  clear hl
  go_enter Tryz.func188, Tryz.ntmps188
  go_upto_region 1 with fail
  go_cut [25] from 12 (fun a wc => a = .bool (decide (0 < i ∧ (rnAt L (i - 1)).u = false)) ∧ wc = w)
  case first =>
    by_cases h0 : 0 < i
    · obtain ⟨_, _, c2⟩ := HC.out (i - 1) (by omega)
      have e1 : ((i : Int) - 1) = ((i - 1 : Nat) : Int) := by omega
      have hd : decide ((i : Int) > 0) = true := by simp; omega
      have hil : i - 1 < len := by omega
      have HT : Hid (decide (0 < i ∧ (rnAt L (i - 1)).u = false) = !(rnAt L (i - 1)).u) := by
        show _ = _
        cases (rnAt L (i - 1)).u <;> simp [h0]
      generalize (rnAt L (i - 1)).u = b at *
      generalize i - 1 = k at *
      go_wp2_with fail
      go_meet
      exact ⟨by rw [HT.out], rfl⟩
    · have HT : Hid (decide (0 < i ∧ (rnAt L (i - 1)).u = false) = false) := by
        show _ = _
        simp [h0]
      go_wp2_with fail
      go_meet
      exact ⟨by rw [HT.out], rfl⟩
  case rest =>
    obtain ⟨rfl, rfl⟩ := hcut
    have HF1 : Hid ((decide (0 < i ∧ (rnAt L (i - 1)).u = false) = true → ((i : Int) - 1) = (f : Nat)) ∧ (decide (0 < i ∧ (rnAt L (i - 1)).u = false) = false → i = f)) := by
      refine ⟨fun h => ?_, fun h => ?_⟩
      · have h1 := of_decide_eq_true h
        have := HFF.out (i - 1) (fun _ => rfl) (fun h => absurd h1 h)
        omega
      · have h1 := of_decide_eq_false h
        exact HFF.out i (fun h => absurd h h1) (fun _ => rfl)
    generalize decide (0 < i ∧ (rnAt L (i - 1)).u = false) = b1 at *
    go_upto_if 25 with fail
    go_cut [4] from 12 (fun a wd => a = .int .i64 (f : Nat) ∧ wd = wc)
    case first =>
      cases b1
      · have h := HF1.out.2 rfl
        have H := hid h
        clear h
        go_wp2_with fail
        go_meet
        exact ⟨by rw [← H.out], rfl⟩
      · have h := HF1.out.1 rfl
        have H := hid h
        clear h
        go_wp2_with fail
        go_meet
        exact ⟨by rw [← H.out], rfl⟩
    case rest =>
      obtain ⟨rfl, rfl⟩ := hcut
      clear HF1
      go_upto_region 3 with fail
      go_cut [45] from 12 (fun a wd => a = .bool (decide (i + 1 < len ∧ (rnAt L (i + 1)).u = false)) ∧ wd = wc)
      case first =>
        by_cases h0 : i + 1 < len
        · obtain ⟨_, _, c2⟩ := HC.out (i + 1) (by omega)
          have e1 : ((i : Int) + 1) = ((i + 1 : Nat) : Int) := by omega
          have hd : decide ((i : Int) + 1 < len) = true := by simp; omega
          have HT : Hid (decide (i + 1 < len ∧ (rnAt L (i + 1)).u = false) = !(rnAt L (i + 1)).u) := by
            show _ = _
            cases (rnAt L (i + 1)).u <;> simp [h0]
          generalize (rnAt L (i + 1)).u = b at *
          generalize hk : i + 1 = k at *
          go_wp2_with fail
          go_meet
          exact ⟨by rw [HT.out], rfl⟩
        · have HT : Hid (decide (i + 1 < len ∧ (rnAt L (i + 1)).u = false) = false) := by
            show _ = _
            simp [h0]
          have hd : decide ((i : Int) + 1 < len) = false := by simp; omega
          go_wp2_with fail
          go_meet
          exact ⟨by rw [HT.out], rfl⟩
      case rest =>
        obtain ⟨rfl, rfl⟩ := hcut
        have HF1 : Hid ((decide (i + 1 < len ∧ (rnAt L (i + 1)).u = false) = true → i + 2 = e) ∧ (decide (i + 1 < len ∧ (rnAt L (i + 1)).u = false) = false → i + 1 = e)) := by
          refine ⟨fun h => ?_, fun h => ?_⟩
          · have h1 := of_decide_eq_true h
            exact HEE.out (i + 2) (fun _ => rfl) (fun h => absurd h1 h)
          · have h1 := of_decide_eq_false h
            exact HEE.out (i + 1) (fun h => absurd h h1) (fun _ => rfl)
        generalize decide (i + 1 < len ∧ (rnAt L (i + 1)).u = false) = b1 at *
        go_upto_if 45 with fail
        go_cut [5] from 12 (fun a wd => a = .int .i64 (e : Nat) ∧ wd = wc)
        case first =>
          cases b1
          · have h := HF1.out.2 rfl
            have H := hid h
            clear h
            go_wp2_with fail
            go_meet
            exact ⟨by rw [← H.out]; go_num, rfl⟩
          · have h := HF1.out.1 rfl
            have H := hid h
            clear h
            go_wp2_with fail
            go_meet
            exact ⟨by rw [← H.out]; go_num, rfl⟩
        case rest =>
          obtain ⟨rfl, rfl⟩ := hcut
          clear HF1
          obtain ⟨s0, _, _⟩ := HC.out f (by omega)
          go_wp2_with fail
          have HO0 : Hid (One (wc.alloc (.cells #[.int .i64 (rnAt L f).s, .int .i64 0, .bool false] 129)) wc.heap.size ⟨(rnAt L f).s, 0, false⟩) := heap_alloc_new _ _
          have hfs : Hid (∀ k, k ≤ e - f → sumTo (L.drop f) k ≤ 1024) := fun k hk => by
            have := HFew.out (f + k) (by rw [HLen.out]; omega) f (by omega)
            rwa [Nat.add_sub_cancel_left] at this
          generalize hs0 : (rnAt L f).s = s at *
          have HS0 := hid hs0
          clear hs0 s0
          have hfe : f < e := by omega
          go_loopw [65] (fun q wr => ∃ k : Nat, q = .int .i64 k ∧ k ≤ e - f ∧ One wr wc.heap.size ⟨s, sumTo (L.drop f) k, false⟩ ∧ Ext [] wc wr) (fun q _ => ((e - f : Nat) - (intOf q)).toNat)
          case atStart => exact ⟨0, rfl, Nat.zero_le _, HO0.out, Ext.alloc _ _ _⟩
          case round =>
            clear HO0
            obtain ⟨k, rfl, hk, hO, hE⟩ := hrel
            by_cases hlt : k < e - f
            · obtain ⟨q0, q1, q2⟩ := HC.out (f + k) (by omega)
              rw [show (f + k) * 3 = f * 3 + k * 3 by omega] at q0 q1 q2
              replace q0 := hE.cell q0 (by simp)
              replace q1 := hE.cell q1 (by simp)
              replace q2 := hE.cell q2 (by simp)
              have o1 : wr.cell? ⟨wc.heap.size, 1, none⟩ = some (.int .i64 (sumTo (L.drop f) k)) := by rw [cell_of_row _ _ _ _ _ _ hO]; rfl
              have of := frozen_of_row _ _ 1 _ _ hO
              have hol := lt_of_heap hO
              have HSn : Hid (sumTo (L.drop f) (k + 1) = sumTo (L.drop f) k + (rnAt L (f + k)).n) := by
                show sumTo (L.drop f) k + (rnAt (L.drop f) k).n = _
                rw [rnAt_drop]
              have hb1 := hfs.out (k + 1) (by omega)
              rw [HSn.out] at hb1
              have HO := hid hO
              have HE := hid hE
              clear hO hE
              generalize sumTo (L.drop f) k = S at *
              generalize rnAt L (f + k) = y at *
              go_wp2_with fail
              go_roundw
              case rel =>
                refine ⟨k + 1, by go_num, by omega, ?_, ?_⟩
                · have h1 := heap_setCell_same wr wc.heap.size 1 _ _ (.int .i64 ((S : Int) + y.n)) HO.out
                  have h2 := (Ext.alloc [] (wr.setCell ⟨wc.heap.size, 1, none⟩ (.int .i64 ((S : Int) + y.n))) (.cells #[.int .i64 y.s, .int .i64 y.n, .bool y.u] 129)).keep h1 (by simp)
                  unfold One
                  rw [h2, HSn.out]
                  simp
                · exact (HE.out.on (Ext.setCell [wc.heap.size] _ _ _ (by simp)) (by simp)).trans (Ext.alloc [] _ _)
              case measure => simp [intOf]; omega
            · obtain rfl : k = e - f := by omega
              have HO := hid hO
              have HE := hid hE
              clear hO hE
              have hcw := HE.out.cell hc (by simp)
              have hpw : p < wr.heap.size := by have := HE.out.size; omega
              have o0 : wr.cell? ⟨wc.heap.size, 0, none⟩ = some (.int .i64 s) := by rw [cell_of_row _ _ _ _ _ _ HO.out]; rfl
              have o1 : wr.cell? ⟨wc.heap.size, 1, none⟩ = some (.int .i64 (sumTo (L.drop f) (e - f))) := by rw [cell_of_row _ _ _ _ _ _ HO.out]; rfl
              have o2 : wr.cell? ⟨wc.heap.size, 2, none⟩ = some (.bool false) := by rw [cell_of_row _ _ _ _ _ _ HO.out]; rfl
              have hol := lt_of_heap HO.out
              have hLw : Hid (L.take f ++ [⟨s, sumTo (L.drop f) (e - f), false⟩] ++ L.drop e = L') := HRL.out.symm
              generalize sumTo (L.drop f) (e - f) = S at *
              have hE2 : Ext [] wr (wr.alloc (.cells #[.int .i64 s, .int .i64 S, .bool false] 129)).drew := (Ext.alloc [] _ _).trans (Ext.drew [] _)
              have hy : One (wr.alloc (.cells #[.int .i64 s, .int .i64 S, .bool false] 129)).drew wr.heap.size ⟨s, S, false⟩ := heap_alloc_new wr _
              have hRw := (HR.out.keep0 HE.out).keep0 hE2
              have K := replace_any (.slice (some ⟨g, 0, none⟩) len c) f e L _ hRw.row hfe (by rw [HLen.out]; exact heu) (by rw [HLen.out]; omega) wr.heap.size _ hy
              have HB : Hid (∀ w2, Ext [g] (wr.alloc (.cells #[.int .i64 s, .int .i64 S, .bool false] 129)).drew w2 → Bx T ox cs w2 p (.slice (some ⟨g, 0, none⟩) len c) ∧ Ext [p, g] wc w2) := fun w2 h =>
                ⟨hRw.box.keep h (by simpa using hpg), (((HE.out.trans hE2).mono (by simp)).trans h).mono (by simp)⟩
              clear hy hE2 hRw
              go_wp2_with fail
              go_region_law (go_simp; go_wp2_with (first | (go_at_call 206; refine K.mono ?_; clear K; rintro e w2 ⟨v', rfl, hL2, hON, hE3⟩; obtain ⟨hb2, hX2⟩ := HB.out w2 hE3; have k0 : w2.cell? ⟨p, ox + 1, none⟩ = some (.slice (some ⟨g, 0, none⟩) len c) := hcell3 hb2; have kf := frozen_of_row w2 p (ox + 1) _ _ hb2.at_; obtain ⟨a', c', hv', _⟩ := hL2.slice; rw [hLw.out] at hL2 hv'; subst hv')))
              all_goals
                go_end0
                exact tk_fin hb2 hL2 hON (by have := HE.out.size; simp; omega) hX2

end Go.Proofs.YtbpjmcjjambdkaaGreatDoor

/-
  Alloc and Free, as calls; no statement is proved here.
-/
namespace Go.Proofs.YtbpjmcjjambdkaaGreatDoor
open Go.RowKit

/-- How pages have turned, and what was answered. -/
def AlPost (T : TypeId) (ox : Nat) (cs : Array Value) (w : World) (p : Nat) (v : Value) (L' : List Rn) (r : Value) (e : Ending) (w' : World) : Prop :=
  ∃ v', e = .returned r ∧ Rs T ox cs w' p v' L' ∧ OldNew w v v' ∧ Ext (p :: v.ownBlock.toList) w w'

theorem al_keep {T : TypeId} {ox : Nat} {cs : Array Value} {w w' : World} {p : Nat} {v : Value} {L : List Rn} (hR : Rs T ox cs w p v L) (hE : Ext [] w w') (r : Value) : AlPost T ox cs w p v L r (.returned r) w' :=
  ⟨v, rfl, hR.keep0 hE, .inl rfl, hE.mono (by simp)⟩

theorem al_of_tk {T : TypeId} {ox : Nat} {cs : Array Value} {w w1 w2 : World} {p : Nat} {v : Value} {L' : List Rn} {e : Ending} {r : Value} (hE : Ext [] w w1) (h : TkPost T ox cs w1 p v L' e w2) : AlPost T ox cs w p v L' r (.returned r) w2 := by
  obtain ⟨v', _, hR, hON, hX⟩ := h
  exact ⟨v', rfl, hR, hON.imp id (fun h g hg => by have := h g hg; have := hE.size; omega), (hE.mono (by simp)).trans hX⟩

theorem alloc_arg {ox : Nat} (p : Nat) (n : Int) (w : World) (h : n < 1) : Calls Tryz.prog 194 #[.pointer (some ⟨p, ox + 1, none⟩), .int .i64 n] w fun e w' => e = .returned (.tuple #[.int .i64 0, .int .i64 2]) ∧ w' = w := by
  go_enter Tryz.func194, Tryz.ntmps194
  go_wp2
  go_ret2
  exact ⟨rfl, rfl⟩

set_option maxRecDepth 100000 in
set_option maxHeartbeats 4000000 in
theorem alloc_full {T : TypeId} {ox : Nat} {cs : Array Value} (p : Nat) (n : Int) (v : Value) (L : List Rn) (w : World) (hR : Rs T ox cs w p v L) (h1 : 1 ≤ n) (hno : ∀ j, j < L.length → (rnAt L j).u = true ∨ ((rnAt L j).n : Int) < n) (hlen : L.length ≤ 10000) :
    Calls Tryz.prog 194 #[.pointer (some ⟨p, ox + 1, none⟩), .int .i64 n] w (AlPost T ox cs w p v L (.tuple #[.int .i64 0, .int .i64 7])) := by
  obtain ⟨a, c, rfl, hnc⟩ := hR.row.slice
  have hc := hR.cell
  have HR := hid hR
  have HN := hid hno
  clear hR hno
  have h1' : ¬ n < 1 := by omega
  go_enter Tryz.func194, Tryz.ntmps194
  go_wp2_with fail
  go_loopw [19] (fun q wr => ∃ k : Nat, q = .int .i64 k ∧ k ≤ L.length ∧ Ext [] w wr) (fun q _ => (L.length - (intOf q)).toNat)
  case atStart => exact ⟨0, rfl, Nat.zero_le _, Ext.refl _ _⟩
  case round =>
    obtain ⟨k, rfl, hk, hE⟩ := hrel
    have HE := hid hE
    clear hE
    by_cases hlt : k < L.length
    · obtain ⟨g, c', hv, _, _, hg, hcs⟩ := (HR.out.row.keep0 HE.out).at_ (by omega)
      simp only [Value.slice.injEq, true_and] at hv
      obtain ⟨rfl, rfl⟩ := hv
      obtain ⟨c0, c1, c2⟩ := hcs k hlt
      have hn := HN.out k hlt
      clear hcs
      generalize rnAt L k = x at *
      cases hu : x.u
      · have h2 : (x.n : Int) < n := by
          rcases hn with h | h
          · rw [hu] at h; cases h
          · exact h
        have h3 : ¬ (n ≤ (x.n : Int)) := by omega
        rw [hu] at c2
        clear hu hn
        go_wp2_with fail
        go_roundw
        case rel => exact ⟨k + 1, by go_num, by omega, HE.out.trans (Ext.alloc [] _ _)⟩
        case measure => simp [intOf]; omega
      · rw [hu] at c2
        clear hu hn
        go_wp2_with fail
        go_roundw
        case rel => exact ⟨k + 1, by go_num, by omega, HE.out.trans (Ext.alloc [] _ _)⟩
        case measure => simp [intOf]; omega
    · go_wp2_with fail
      go_ret2
      exact al_keep HR.out HE.out _

set_option maxRecDepth 100000 in
set_option maxHeartbeats 4000000 in
theorem alloc_hit {T : TypeId} {ox : Nat} {cs : Array Value} (p i : Nat) (n : Nat) (v : Value) (L : List Rn) (w : World) (hR : Rs T ox cs w p v L) (h1 : 1 ≤ n) (hi : i < L.length) (hu : (rnAt L i).u = false) (hn : n ≤ (rnAt L i).n) (hb : (rnAt L i).s + (rnAt L i).n ≤ 1024)
    (hno : ∀ j, j < i → (rnAt L j).u = true ∨ (rnAt L j).n < n) (hlen : L.length ≤ 10000) :
    Calls Tryz.prog 194 #[.pointer (some ⟨p, ox + 1, none⟩), .int .i64 n] w (AlPost T ox cs w p v (takeL L i n) (.tuple #[.int .i64 (rnAt L i).s, .int .i64 0])) := by
  obtain ⟨a, c, rfl, hnc⟩ := hR.row.slice
  have hc := hR.cell
  have HR := hid hR
  have HN := hid hno
  have HU := hid hu
  clear hR hno hu
  have h1' : ¬ (n : Int) < 1 := by omega
  have HK : Hid (∀ W, Ext [] w W → Calls Tryz.prog 211 #[.pointer (some ⟨p, ox + 1, none⟩), .int .i64 i, .int .i64 n] W (TkPost T ox cs W p (.slice a L.length c) (takeL L i n))) := fun W hW => take_any p i n _ L W (HR.out.keep0 hW) hi hb hlen
  go_enter Tryz.func194, Tryz.ntmps194
  go_wp2_with fail
  go_loopw [19] (fun q wr => ∃ k : Nat, q = .int .i64 k ∧ k ≤ i ∧ Ext [] w wr) (fun q _ => (L.length - (intOf q)).toNat)
  case atStart => exact ⟨0, rfl, Nat.zero_le _, Ext.refl _ _⟩
  case round =>
    obtain ⟨k, rfl, hk, hE⟩ := hrel
    have HE := hid hE
    clear hE
    obtain ⟨g, c', hv, _, _, hg, hcs⟩ := (HR.out.row.keep0 HE.out).at_ (by omega)
    simp only [Value.slice.injEq, true_and] at hv
    obtain ⟨rfl, rfl⟩ := hv
    obtain ⟨c0, c1, c2⟩ := hcs k (by omega)
    clear hcs
    by_cases hlt : k < i
    · have hn2 := HN.out k hlt
      generalize rnAt L k = x at *
      cases hu : x.u
      · have h2 : x.n < n := by
          rcases hn2 with h | h
          · rw [hu] at h; cases h
          · exact h
        have h3 : ¬ ((n : Int) ≤ (x.n : Int)) := by omega
        rw [hu] at c2
        clear hu hn2
        go_wp2_with fail
        go_roundw
        case rel => exact ⟨k + 1, by go_num, by omega, HE.out.trans (Ext.alloc [] _ _)⟩
        case measure => simp [intOf]; omega
      · rw [hu] at c2
        clear hu hn2
        go_wp2_with fail
        go_roundw
        case rel => exact ⟨k + 1, by go_num, by omega, HE.out.trans (Ext.alloc [] _ _)⟩
        case measure => simp [intOf]; omega
    · obtain rfl : k = i := by omega
      have hu := HU.out
      rw [hu] at c2
      clear hu
      have h3 : (n : Int) ≤ ((rnAt L k).n : Int) := by omega
      have HE2 := hid (HE.out.trans (Ext.alloc [] wr (.cells #[.int .i64 (rnAt L k).s, .int .i64 (rnAt L k).n, .bool false] 129)))
      have HO : Hid (One (wr.alloc (.cells #[.int .i64 (rnAt L k).s, .int .i64 (rnAt L k).n, .bool false] 129)) wr.heap.size ⟨(rnAt L k).s, (rnAt L k).n, false⟩) := heap_alloc_new wr _
      have K := HK.out _ HE2.out
      have hls := HR.out.lt
      have hgs : ∀ q, (Value.slice (some ⟨g, 0, none⟩) L.length c).ownBlock = some q → q < w.heap.size := HR.out.row.lt
      have hws := HE.out.size
      generalize takeL L k n = L' at *
      generalize rnAt L k = x at *
      go_wp2_with fail
      refine K.mono ?_
      clear K
      rintro e w2 h
      have hX := h.choose_spec.2.2.2
      have hE := h.choose_spec.1
      subst hE
      have ho2 := HO.out.keep hX (by
        simp only [List.mem_cons, Option.mem_toList, not_or]
        refine ⟨by omega, fun h => ?_⟩
        have := hgs _ h
        omega)
      have d0 : w2.cell? ⟨wr.heap.size, 0, none⟩ = some (.int .i64 x.s) := by rw [cell_of_row _ _ _ _ _ _ ho2]; rfl
      have H := hid h
      clear hX ho2 h
      go_wp2_with fail
      go_ret2
      exact al_of_tk HE2.out H.out

set_option maxRecDepth 100000 in
set_option maxHeartbeats 4000000 in
theorem free_none {T : TypeId} {ox : Nat} {cs : Array Value} (p : Nat) (n : Int) (v : Value) (L : List Rn) (w : World) (hR : Rs T ox cs w p v L) (hno : ∀ j, j < L.length → (rnAt L j).u = false ∨ ((rnAt L j).s : Int) ≠ n) (hlen : L.length ≤ 10000) :
    Calls Tryz.prog 158 #[.pointer (some ⟨p, ox + 1, none⟩), .int .i64 n] w (AlPost T ox cs w p v L (.tuple #[.int .i64 0, .int .i64 4])) := by
  obtain ⟨a, c, rfl, hnc⟩ := hR.row.slice
  have hc := hR.cell
  have HR := hid hR
  have HN := hid hno
  clear hR hno
  go_enter Tryz.func158, Tryz.ntmps158
  go_wp2_with fail
  go_loopw [15] (fun q wr => ∃ k : Nat, q = .int .i64 k ∧ k ≤ L.length ∧ Ext [] w wr) (fun q _ => (L.length - (intOf q)).toNat)
  case atStart => exact ⟨0, rfl, Nat.zero_le _, Ext.refl _ _⟩
  case round =>
    obtain ⟨k, rfl, hk, hE⟩ := hrel
    have HE := hid hE
    clear hE
    by_cases hlt : k < L.length
    · obtain ⟨g, c', hv, _, _, hg, hcs⟩ := (HR.out.row.keep0 HE.out).at_ (by omega)
      simp only [Value.slice.injEq, true_and] at hv
      obtain ⟨rfl, rfl⟩ := hv
      obtain ⟨c0, c1, c2⟩ := hcs k hlt
      have hn := HN.out k hlt
      clear hcs
      generalize rnAt L k = x at *
      cases hu : x.u
      rotate_left
      · have h2 : (x.s : Int) ≠ n := by
          rcases hn with h | h
          · rw [hu] at h; cases h
          · exact h
        have h3 : ((x.s : Int) == n) = false := by simp [h2]
        rw [hu] at c2
        clear hu hn h2
        go_wp2_with fail
        go_roundw
        case rel => exact ⟨k + 1, by go_num, by omega, HE.out.trans (Ext.alloc [] _ _)⟩
        case measure => simp [intOf]; omega
      · rw [hu] at c2
        clear hu hn
        go_wp2_with fail
        go_roundw
        case rel => exact ⟨k + 1, by go_num, by omega, HE.out.trans (Ext.alloc [] _ _)⟩
        case measure => simp [intOf]; omega
    · go_wp2_with fail
      go_ret2
      exact al_keep HR.out HE.out _

set_option maxRecDepth 100000 in
set_option maxHeartbeats 4000000 in
theorem free_hit {T : TypeId} {ox : Nat} {cs : Array Value} (p i : Nat) (n : Int) (v : Value) (L : List Rn) (w : World) (hR : Rs T ox cs w p v L) (hi : i < L.length) (hu : (rnAt L i).u = true) (hn : ((rnAt L i).s : Int) = n) (hf : Few L)
    (hno : ∀ j, j < i → (rnAt L j).u = false ∨ ((rnAt L j).s : Int) ≠ n) (hlen : L.length ≤ 10000) :
    Calls Tryz.prog 158 #[.pointer (some ⟨p, ox + 1, none⟩), .int .i64 n] w (AlPost T ox cs w p v (relL L i) (.tuple #[.int .i64 (rnAt L i).n, .int .i64 0])) := by
  obtain ⟨a, c, rfl, hnc⟩ := hR.row.slice
  have hc := hR.cell
  have HR := hid hR
  have HN := hid hno
  have HU := hid hu
  have HS := hid hn
  clear hR hno hu hn
  have HK : Hid (∀ W, Ext [] w W → Calls Tryz.prog 188 #[.pointer (some ⟨p, ox + 1, none⟩), .int .i64 i] W (TkPost T ox cs W p (.slice a L.length c) (relL L i))) := fun W hW => release_any p i _ L W (HR.out.keep0 hW) hi hf hlen
  go_enter Tryz.func158, Tryz.ntmps158
  go_wp2_with fail
  go_loopw [15] (fun q wr => ∃ k : Nat, q = .int .i64 k ∧ k ≤ i ∧ Ext [] w wr) (fun q _ => (L.length - (intOf q)).toNat)
  case atStart => exact ⟨0, rfl, Nat.zero_le _, Ext.refl _ _⟩
  case round =>
    obtain ⟨k, rfl, hk, hE⟩ := hrel
    have HE := hid hE
    clear hE
    obtain ⟨g, c', hv, _, _, hg, hcs⟩ := (HR.out.row.keep0 HE.out).at_ (by omega)
    simp only [Value.slice.injEq, true_and] at hv
    obtain ⟨rfl, rfl⟩ := hv
    obtain ⟨c0, c1, c2⟩ := hcs k (by omega)
    clear hcs
    by_cases hlt : k < i
    · have hn2 := HN.out k hlt
      generalize rnAt L k = x at *
      cases hu : x.u
      rotate_left
      · have h2 : (x.s : Int) ≠ n := by
          rcases hn2 with h | h
          · rw [hu] at h; cases h
          · exact h
        have h3 : ((x.s : Int) == n) = false := by simp [h2]
        rw [hu] at c2
        clear hu hn2 h2
        go_wp2_with fail
        go_roundw
        case rel => exact ⟨k + 1, by go_num, by omega, HE.out.trans (Ext.alloc [] _ _)⟩
        case measure => simp [intOf]; omega
      · rw [hu] at c2
        clear hu hn2
        go_wp2_with fail
        go_roundw
        case rel => exact ⟨k + 1, by go_num, by omega, HE.out.trans (Ext.alloc [] _ _)⟩
        case measure => simp [intOf]; omega
    · obtain rfl : k = i := by omega
      have hu := HU.out
      rw [hu] at c2
      clear hu
      have h3 : (((rnAt L k).s : Int) == n) = true := by simp [HS.out]
      have HE2 := hid (HE.out.trans (Ext.alloc [] wr (.cells #[.int .i64 (rnAt L k).s, .int .i64 (rnAt L k).n, .bool true] 129)))
      have HO : Hid (One (wr.alloc (.cells #[.int .i64 (rnAt L k).s, .int .i64 (rnAt L k).n, .bool true] 129)) wr.heap.size ⟨(rnAt L k).s, (rnAt L k).n, true⟩) := heap_alloc_new wr _
      have K := HK.out _ HE2.out
      have hls := HR.out.lt
      have hgs : ∀ q, (Value.slice (some ⟨g, 0, none⟩) L.length c).ownBlock = some q → q < w.heap.size := HR.out.row.lt
      have hws := HE.out.size
      generalize relL L k = L' at *
      generalize rnAt L k = x at *
      go_wp2_with fail
      refine K.mono ?_
      clear K
      rintro e w2 h
      have hX := h.choose_spec.2.2.2
      have hE := h.choose_spec.1
      subst hE
      have ho2 := HO.out.keep hX (by
        simp only [List.mem_cons, Option.mem_toList, not_or]
        refine ⟨by omega, fun h => ?_⟩
        have := hgs _ h
        omega)
      have d0 : w2.cell? ⟨wr.heap.size, 1, none⟩ = some (.int .i64 x.n) := by rw [cell_of_row _ _ _ _ _ _ ho2]; rfl
      have H := hid h
      clear hX ho2 h
      go_wp2_with fail
      go_ret2
      exact al_of_tk HE2.out H.out


end Go.Proofs.YtbpjmcjjambdkaaGreatDoor
