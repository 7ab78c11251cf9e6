/-
  The iterator over a list of runs: what it gives a loop, and the calls that answer it; no statement is proved here.
-/
import Derived.Test.YtlajjcboahflbaaDoorBase
import Derived.Lib.SliceRun
namespace Go.Proofs.YtlajjcboahflbaaDoor
open Go.RowKit Go.Shelf

attribute [local go_sem] Oper.semAt_some

/-- What a loop's round must keep: the box of the iterator's list, and the list. -/
structure Kl (Bn : Nat) (v : Value) (A B : World) : Prop where
  box : ∀ o, A.heap[Bn]? = some o → B.heap[Bn]? = some o
  row : ∀ g, v.ownBlock = some g → ∀ o, A.heap[g]? = some o → B.heap[g]? = some o

theorem Kl.refl (Bn : Nat) (v : Value) (A : World) : Kl Bn v A A := ⟨fun _ h => h, fun _ _ _ h => h⟩
theorem Kl.trans {Bn : Nat} {v : Value} {A B C : World} (h : Kl Bn v A B) (k : Kl Bn v B C) : Kl Bn v A C :=
  ⟨fun o ho => k.box o (h.box o ho), fun g hg o ho => k.row g hg o (h.row g hg o ho)⟩
theorem Kl.lst {Bn : Nat} {v : Value} {A B : World} (h : Kl Bn v A B) {L : List Rn} (hl : Lst A v L) : Lst B v L := by
  refine ⟨hl.1, ?_⟩
  rcases hl.2 with q | ⟨g, cap, cur, rfl, h1, h2, h3⟩
  · exact .inl q
  · exact .inr ⟨g, cap, cur, rfl, h1, h.row g rfl _ h2, h3⟩
theorem Kl.boxed {Bn : Nat} {v : Value} {A B : World} (h : Kl Bn v A B) {t : TypeId} {u : Value} (hb : Boxed A Bn t u) : Boxed B Bn t u := h.box _ hb
theorem Kl.of_ext {Bn : Nat} {v : Value} {A B : World} {S : List Nat} (x : Ext S A B) (h1 : Bn ∉ S) (h2 : ∀ g, v.ownBlock = some g → g ∉ S) : Kl Bn v A B :=
  ⟨fun _ ho => x.keep ho h1, fun g hg _ ho => x.keep ho (h2 g hg)⟩
theorem Kl.of_ext0 {Bn : Nat} {v : Value} {A B : World} (x : Ext [] A B) : Kl Bn v A B := Kl.of_ext x (by simp) (by simp)
theorem klK_b {Bn : Nat} {v : Value} {w : World} (h1 : Bn < w.heap.size) (h2 : ∀ g, v.ownBlock = some g → g < w.heap.size) (W : World) (l : Nat) (o o' : Obj) (hl : w.heap.size ≤ l) (_ : W.heap[l]? = some o) (_ : o.isCells = false) (_ : o.isWalk = false) : Kl Bn v W (W.putObj l o') :=
  ⟨fun _ ho => (World.putObj_heap_other (by omega)).trans ho, fun g hg _ ho => (World.putObj_heap_other (by have := h2 g hg; omega)).trans ho⟩
theorem klK_t {Bn : Nat} {v : Value} {A B C : World} (h : Kl Bn v A B) (k : Kl Bn v B C) : Kl Bn v A C := h.trans k

set_option maxRecDepth 100000 in
set_option maxHeartbeats 2000000 in
/-- The iterator's body, for every loop body that keeps the iterator's list. -/
theorem each1_in (F : Fence) (n : Nat) (h34 : F.fn 86) (hro : F.round = none) (hn : 1 ≤ n) (l Bn : Nat) (v : Value) (L : List Rn) (hlen : L.length ≤ 1000000) (J Jx : List Rn → World → Prop) (B0 : Nat) (hJ : AbidesFrom B0 J)
    (hY : ∀ pre x W, J pre W → pre.length < L.length → YieldAt F (n - 1) Tryd.prog l #[.agg #[.int .i64 x.s, .int .i64 x.n, .bool x.u]] W fun e W' =>
      (e = .returned (.bool true) ∧ J (pre ++ [x]) W' ∧ Kl Bn v W W') ∨ (e = .returned (.bool false) ∧ Jx (pre ++ [x]) W'))
    (W : World) (hBn : Boxed W Bn 30 v) (hL : Lst W v L) (h0 : J [] W) :
    CallsIn F n Tryd.prog 86 #[.func (.yield l) #[] #[], .pointer (some ⟨Bn, 0, none⟩)] W fun e W' => (∃ v, e = .returned v) ∧
      ((∃ ys, ys = L ∧ J ys W') ∨ (∃ pre, pre <+: L ∧ Jx pre W')) := by
  obtain ⟨a, c, rfl, _⟩ := hL.slice
  have hc := hBn.cell
  have hbl := hBn.lt
  refine callsIn_of_wp Tryd.func86 rfl h34 ?_ hro
  simp only [Tryd.ntmps86, List.size_toArray, List.length_cons, List.length_nil, Nat.reduceAdd, Nat.reduceSub, Array.replicate_succ, Array.replicate_zero, List.push_toArray, List.append_toArray, List.nil_append, List.cons_append]
  have HL := hid hL
  have HB := hid hBn
  clear hL hBn
  gi_wp2
  gi_loopw [7] (fun q wr => ∃ k : Nat, q = .int .i64 k ∧ k ≤ L.length ∧ Lst wr (.slice a L.length c) L ∧ Boxed wr Bn 30 (.slice a L.length c) ∧ J (L.take k) wr) (fun q _ => (L.length - (intOf q)).toNat)
  case atStart => exact ⟨0, rfl, Nat.zero_le _, HL.out, HB.out, by simpa using h0⟩
  case round =>
    clear HL HB
    obtain ⟨k, rfl, hk, hL, hB, hJk⟩ := hrel
    have HL := hid hL
    have HB := hid hB
    have HJk := hid hJk
    clear hB hJk
    by_cases hlt : k < L.length
    · obtain ⟨g, c', hv, _, _, hg, hcs⟩ := hL.at_ (by omega)
      simp only [Value.slice.injEq, true_and] at hv
      obtain ⟨rfl, rfl⟩ := hv
      obtain ⟨c0, c1, c2⟩ := hcs k hlt
      have HM : Hid (L.take k ++ [rnAt L k] = L.take (k + 1)) := by
        show _ = _
        rw [List.take_add_one, rnAt_get hlt]; rfl
      obtain ⟨x, hx⟩ : ∃ x, x = rnAt L k := ⟨_, rfl⟩
      rw [← hx] at c0 c1 c2 HM
      clear hx hcs hL
      have hJ2 : J (L.take k) (wr.alloc (.cells #[.int .i64 x.s, .int .i64 x.n, .bool x.u] 38)) := hJ _ _ _ none HJk.out (World.grownBy_alloc _ _ _) (by simp)
      obtain ⟨fn, tmps, assign, body, hy, hR⟩ := hY (L.take k) x _ hJ2 (by simp; omega)
      clear hJ2
      gi_wp2
      refine hR.mono ?_
      rintro e W3 (⟨rfl, hJ3, hk3⟩ | ⟨rfl, hJx3⟩)
      · have hE := Ext.alloc [] wr (.cells #[.int .i64 x.s, .int .i64 x.n, .bool x.u] 38)
        have HL3 := hid (hk3.lst (HL.out.keep0 hE))
        have HB3 := hid (hk3.boxed (HB.out.alloc _))
        clear hE
        gi_wp2
        go_roundw
        case rel => exact ⟨k + 1, by go_num, by omega, HL3.out, HB3.out, by rw [← HM.out]; exact hJ3⟩
        case measure => simp [intOf]; omega
      · gi_wp2
        refine bodyPost_ret (results_none rfl _ _ _) rfl ?_
        exact ⟨⟨_, rfl⟩, .inr ⟨_, by rw [HM.out]; exact List.take_prefix _ _, hJx3⟩⟩
    · obtain rfl : k = L.length := by omega
      gi_wp2
      go_end0
      exact ⟨⟨_, rfl⟩, .inl ⟨L, rfl, by have := HJk.out; rwa [List.take_length] at this⟩⟩

/-- The iterator's contract. -/
theorem each_stops (F : Fence) (n : Nat) (h34 : F.fn 86) (hro : F.round = none) (hn : 1 ≤ n) (Bn : Nat) (v : Value) (L : List Rn) (hlen : L.length ≤ 1000000) (w : World) (hB : Boxed w Bn 30 v) (hL : Lst w v L) :
    SeqStopsK F n Tryd.prog 86 #[.pointer (some ⟨Bn, 0, none⟩)] (fun x : Rn => #[Value.agg #[.int .i64 x.s, .int .i64 x.n, .bool x.u]]) (Kl Bn v) (fun ys => ys = L) (fun pre => pre <+: L) L.length w := fun l J Jx W hW hJ _ hY h0 =>
  each1_in F n h34 hro hn l Bn v L hlen J Jx _ hJ hY W ((below_ext hW).keep hB (by simp)) (hL.keep0 (below_ext hW)) h0

/-- The iterator's value. -/
def itv (Bn : Nat) : Value := .func (.func 86) #[] #[.pointer (some ⟨Bn, 0, none⟩)]

theorem each_any (v : Value) (a : Option Addr) (n c : Nat) (hv : v = .slice a n c) (w : World) : Calls Tryd.prog 82 #[v] w fun e w' => e = .returned (itv w.heap.size) ∧ w' = w.alloc (.cells #[v] 30) := by
  subst hv
  go_enter Tryd.func82, Tryd.ntmps82
  go_wp2
  go_ret
  exact ⟨rfl, rfl⟩

theorem now_nil (w : World) : Calls Tryd.prog 71 #[.pointer none] w fun e w' => e = .returned (itv w.heap.size) ∧ w' = w.alloc (.cells #[.slice none 0 0] 30) := by
  go_enter Tryd.func71, Tryd.ntmps71
  go_wp2_with (go_at_call 82; refine (each_any _ _ _ _ rfl _).mono ?_; rintro e w' ⟨rfl, rfl⟩)
  go_ret
  exact ⟨rfl, rfl⟩

theorem now_any {T : TypeId} {ox : Nat} {cs : Array Value} (p : Nat) (v : Value) (L : List Rn) (w : World) (hR : Rs T ox cs w p v L) : Calls Tryd.prog 71 #[.pointer (some ⟨p, ox + 1, none⟩)] w fun e w' => e = .returned (itv w.heap.size) ∧ w' = w.alloc (.cells #[v] 30) := by
  obtain ⟨a, c, rfl, _⟩ := hR.row.slice
  have hc := hR.cell
  clear hR
  go_enter Tryd.func71, Tryd.ntmps71
  go_wp2_with (go_at_call 82; refine (each_any _ _ _ _ rfl _).mono ?_; rintro e w' ⟨rfl, rfl⟩)
  go_ret
  exact ⟨rfl, rfl⟩

/-- A copy of a list. -/
def ClPost (w : World) (L : List Rn) (e : Ending) (w' : World) : Prop :=
  ∃ v', e = .returned v' ∧ Lst w' v' L ∧ (∀ g, v'.ownBlock = some g → w.heap.size ≤ g) ∧ Ext [] w w'

theorem clone_any (v : Value) (L : List Rn) (w : World) (hL : Lst w v L) (hlen : L.length ≤ 1000000) : Calls Tryd.prog 83 #[v] w (ClPost w L) := by
  rcases id hL.2 with ⟨rfl, hn⟩ | ⟨g, cap, cur, rfl, h1, h2, h3, h4, h5, h6⟩
  · obtain rfl : L = [] := List.length_eq_zero_iff.1 hn
    clear hL hlen
    have heq : ∀ w, Sem.run Tryd.prog (binOp .eql 30 (.slice none 0 0) (.slice none 0 0)) w = .ok (.bool true) w := fun w => Lib.run_eql_slice_nil w 30 38 none 0 0 0 0 Tryd.underlying30
    go_enter Tryd.func83, Tryd.ntmps83
    go_wp2
    go_ret
    exact ⟨_, rfl, lst_nil _, by simp [Value.ownBlock], Ext.refl _ _⟩
  · have hE0 := Ext.alloc [] w (.cells #[] 38)
    obtain ⟨i, hi0, hz0, hz1, hz2⟩ := info_parts info38
    have hown : (w.alloc (.cells #[] 38)).ownsRow w.heap.size 38 3 (.slice (some ⟨w.heap.size, 0, none⟩) 0 0) 0 [] := World.ownsRow_made w #[] 0 (Nat.le_refl _) (Nat.zero_le _) rfl
    have hL0 := hL.keep0 hE0
    obtain ⟨v', w', hr, ho, hg, _⟩ := run_append_own (P := Tryd.prog) (w.alloc (.cells #[] 38)) w.heap.size 30 30 38 i _ 3 24 Tryd.underlying30 hi0 hz0 hz1 hz2 rfl (by decide) _ 0 [] hown ⟨g, 0, none⟩ L.length cap (rcells L) (rcells_len L) (fun j u hj => World.ownsRow.cells hL0 (g := g) rfl j u hj) (rcells_one' L) (by unfold maxLen; omega) (by omega) (by simp)
    rw [Nat.zero_add, List.nil_append] at ho
    have HF : Hid (ClPost w L (.returned v') w') := ⟨v', rfl, own_base ho (Nat.zero_le _), fun g hg => (own_lt ho g hg).1, (hE0.on (ext_grown hg) (by simp [Value.ownBlock]))⟩
    clear hL h1 h2 h3 h4 h5 h6 hE0 hown hL0 ho hg hz0 hz1 hz2 hi0
    generalize L.length = len at *
    have heq : ∀ w, Sem.run Tryd.prog (binOp .eql 30 (.slice (some ⟨g, 0, none⟩) len cap) (.slice none 0 0)) w = .ok (.bool false) w := fun w => Lib.run_eql_slice_nil w 30 38 (some ⟨g, 0, none⟩) len cap 0 0 Tryd.underlying30
    go_enter Tryd.func83, Tryd.ntmps83
    go_wp2_with (at_builtin; refine wpList_append_run rfl _ _ 30 rfl _ _ _ rfl rfl hr ?_)
    go_ret
    exact HF.out

/-- An iterator over a copy. -/
def AllPost (w : World) (L : List Rn) (e : Ending) (w' : World) : Prop :=
  ∃ Bn v, e = .returned (itv Bn) ∧ Boxed w' Bn 30 v ∧ Lst w' v L ∧ w.heap.size ≤ Bn ∧ (∀ g, v.ownBlock = some g → w.heap.size ≤ g) ∧ Ext [] w w'

theorem all_nil (w : World) : Calls Tryd.prog 65 #[.pointer none] w (AllPost w []) := by
  go_enter Tryd.func65, Tryd.ntmps65
  go_wp2_with (go_at_call 82; refine (each_any _ _ _ _ rfl _).mono ?_; rintro e w' ⟨rfl, rfl⟩)
  go_ret
  exact ⟨_, _, rfl, Boxed.new _ _ _, lst_nil _, Nat.le_refl _, by simp [Value.ownBlock], Ext.alloc _ _ _⟩

theorem all_any {T : TypeId} {ox : Nat} {cs : Array Value} (p : Nat) (v : Value) (L : List Rn) (w : World) (hR : Rs T ox cs w p v L) (hlen : L.length ≤ 1000000) : Calls Tryd.prog 65 #[.pointer (some ⟨p, ox + 1, none⟩)] w (AllPost w L) := by
  have K := clone_any v L w hR.row hlen
  have hc := hR.cell
  obtain ⟨a, c, rfl, _⟩ := hR.row.slice
  clear hR
  go_enter Tryd.func65, Tryd.ntmps65
  go_wp2_with fail
  refine K.mono ?_
  clear K
  rintro e w1 ⟨v', rfl, hL1, hn1, hE1⟩
  obtain ⟨a', c', rfl, _⟩ := hL1.slice
  have HF : Hid (AllPost w L (.returned (itv w1.heap.size)) (w1.alloc (.cells #[.slice a' L.length c'] 30))) :=
    ⟨_, _, rfl, Boxed.new _ _ _, hL1.keep0 (Ext.alloc _ _ _), hE1.size, hn1, hE1.trans (Ext.alloc _ _ _)⟩
  clear hL1 hn1 hE1
  go_wp2_with (go_at_call 82; refine (each_any _ _ _ _ rfl _).mono ?_; rintro e w' ⟨rfl, rfl⟩)
  go_ret
  exact HF.out

end Go.Proofs.YtlajjcboahflbaaDoor
