/-
  The iterator over a list of numbers; no statement is proved here.
-/
import Derived.Test.YtbjplfbplkjibaaBase
import Derived.Lib.SliceRun
namespace Go.Proofs.Ytbjplfbplkjibaa
open Go.RowKit Go.Shelf

attribute [local go_sem] Oper.semAt_some

/-- A list of ints of one's own. -/
def Lst (w : World) (v : Value) (L : List Int) : Prop := w.ownsRow 0 3 1 v L.length (L.map (Value.int .i64))
theorem Lst.keep {S : List Nat} {w w' : World} {v : Value} {L : List Int} (h : Lst w v L) (x : Ext S w w') (hs : ∀ b ∈ S, v.ownBlock ≠ some b) : Lst w' v L := own_keep h x hs
theorem Lst.keep0 {w w' : World} {v : Value} {L : List Int} (h : Lst w v L) (x : Ext [] w w') : Lst w' v L := own_keep0 h x
theorem lst_nil (w : World) : Lst w (.slice none 0 0) [] := own_nil _ _ _ _
theorem Lst.slice {w : World} {v : Value} {L : List Int} (h : Lst w v L) : ∃ a c, v = .slice a L.length c ∧ L.length ≤ c := own_slice h
theorem Lst.lt {w : World} {v : Value} {L : List Int} (h : Lst w v L) : ∀ g, v.ownBlock = some g → g < w.heap.size := fun g hg => (own_lt h g hg).2

/-- What a loop's round must keep: the box of the iterator's list, and the list. -/
structure Kl (Bn : Nat) (v : Value) (A B : World) : Prop where
  box : ∀ o, A.heap[Bn]? = some o → B.heap[Bn]? = some o
  row : ∀ g, v.ownBlock = some g → ∀ o, A.heap[g]? = some o → B.heap[g]? = some o

theorem Kl.refl (Bn : Nat) (v : Value) (A : World) : Kl Bn v A A := ⟨fun _ h => h, fun _ _ _ h => h⟩
theorem Kl.trans {Bn : Nat} {v : Value} {A B C : World} (h : Kl Bn v A B) (k : Kl Bn v B C) : Kl Bn v A C :=
  ⟨fun o ho => k.box o (h.box o ho), fun g hg o ho => k.row g hg o (h.row g hg o ho)⟩
theorem Kl.lst {Bn : Nat} {v : Value} {A B : World} (h : Kl Bn v A B) {L : List Int} (hl : Lst A v L) : Lst B v L := by
  refine ⟨hl.1, ?_⟩
  rcases hl.2 with q | ⟨g, cap, cur, rfl, h1, h2, h3⟩
  · exact .inl q
  · exact .inr ⟨g, cap, cur, rfl, h1, h.row g rfl _ h2, h3⟩
theorem Kl.boxed {Bn : Nat} {v : Value} {A B : World} (h : Kl Bn v A B) {t : TypeId} {u : Value} (hb : Boxed A Bn t u) : Boxed B Bn t u := h.box _ hb
theorem Kl.of_ext {Bn : Nat} {v : Value} {A B : World} {S : List Nat} (x : Ext S A B) (h1 : Bn ∉ S) (h2 : ∀ g, v.ownBlock = some g → g ∉ S) : Kl Bn v A B :=
  ⟨fun _ ho => x.keep ho h1, fun g hg _ ho => x.keep ho (h2 g hg)⟩
theorem Kl.of_ext0 {Bn : Nat} {v : Value} {A B : World} (x : Ext [] A B) : Kl Bn v A B := Kl.of_ext x (by simp) (by simp)
theorem klK_b {Bn : Nat} {v : Value} {w : World} (h1 : Bn < w.heap.size) (h2 : ∀ g, v.ownBlock = some g → g < w.heap.size) (W : World) (l : Nat) (o o' : Obj) (hl : w.heap.size ≤ l) (_ : W.heap[l]? = some o) (_ : o.isCells = false) (_ : o.isWalk = false) : Kl Bn v W (W.putObj l o') :=
  ⟨fun _ ho => (World.putObj_heap_other (by omega)).trans ho, fun g hg _ ho => (World.putObj_heap_other (by have := h2 g hg; omega)).trans ho⟩
theorem klK_t {Bn : Nat} {v : Value} {A B C : World} (h : Kl Bn v A B) (k : Kl Bn v B C) : Kl Bn v A C := h.trans k
theorem Kl.of_below {Bn n₀ : Nat} {v : Value} {A B : World} (h : Below n₀ A B) (h1 : Bn < n₀) (h2 : ∀ g, v.ownBlock = some g → g < n₀) : Kl Bn v A B :=
  ⟨fun _ ho => (h.block _ h1).trans ho, fun g hg _ ho => (h.block g (h2 g hg)).trans ho⟩

set_option maxRecDepth 100000 in
set_option maxHeartbeats 2000000 in
/-- The iterator's body, for every loop body that keeps the iterator's list. -/
theorem each1_in (F : Fence) (n : Nat) (h51 : F.fn 42) (hro : F.round = none) (hn : 1 ≤ n) (l Bn : Nat) (v : Value) (L : List Int) (hlen : L.length ≤ 1000000) (J Jx : List Int → World → Prop)
    (hY : ∀ pre x W, J pre W → pre.length < L.length → YieldAt F (n - 1) Try.prog l #[.int .i64 x] W fun e W' =>
      (e = .returned (.bool true) ∧ J (pre ++ [x]) W' ∧ Kl Bn v W W') ∨ (e = .returned (.bool false) ∧ Jx (pre ++ [x]) W'))
    (W : World) (hBn : Boxed W Bn 28 v) (hL : Lst W v L) (h0 : J [] W) :
    CallsIn F n Try.prog 42 #[.func (.yield l) #[] #[], .pointer (some ⟨Bn, 0, none⟩)] W fun e W' => (∃ v, e = .returned v) ∧
      ((∃ ys, ys = L ∧ J ys W') ∨ (∃ pre, pre <+: L ∧ Jx pre W')) := by
  obtain ⟨a, c, rfl, _⟩ := hL.slice
  have hc := hBn.cell
  have hbl := hBn.lt
  refine callsIn_of_wp Try.func42 rfl h51 ?_ hro
  simp only [Try.ntmps42, List.size_toArray, List.length_cons, List.length_nil, Nat.reduceAdd, Nat.reduceSub, Array.replicate_succ, Array.replicate_zero, List.push_toArray, List.append_toArray, List.nil_append, List.cons_append]
  have HL := hid hL
  have HB := hid hBn
  clear hL hBn
  gi_wp2
  gi_loopw [7] (fun q wr => ∃ k : Nat, q = .int .i64 k ∧ k ≤ L.length ∧ Lst wr (.slice a L.length c) L ∧ Boxed wr Bn 28 (.slice a L.length c) ∧ J (L.take k) wr) (fun q _ => (L.length - (intOf q)).toNat)
  case atStart => exact ⟨0, rfl, Nat.zero_le _, HL.out, HB.out, by simpa using h0⟩
  case round =>
    clear HL HB
    obtain ⟨k, rfl, hk, hL, hB, hJk⟩ := hrel
    have HL := hid hL
    have HB := hid hB
    clear hB hL
    by_cases hlt : k < L.length
    · obtain ⟨b, o, rfl, c0⟩ := Is.cell (show Is wr a L from own_vs HL.out) hlt
      have HM : Hid (L.take k ++ [L.getD k 0] = L.take (k + 1)) := by
        show _ = _
        rw [List.take_add_one]; simp [hlt]
      generalize L.getD k 0 = x at *
      obtain ⟨fn, tmps, assign, body, hy, hR⟩ := hY (L.take k) x _ hJk (by simp; omega)
      gi_wp2
      refine hR.mono ?_
      rintro e W3 (⟨rfl, hJ3, hk3⟩ | ⟨rfl, hJx3⟩)
      · have HL3 := hid (hk3.lst HL.out)
        have HB3 := hid (hk3.boxed HB.out)
        gi_wp2
        go_roundw
        case rel => exact ⟨k + 1, by go_num, by omega, HL3.out, HB3.out, by rw [← HM.out]; exact hJ3⟩
        case measure => simp [intOf]; omega
      · gi_wp2
        refine bodyPost_ret (results_none rfl _ _ _) rfl ?_
        exact ⟨⟨_, rfl⟩, .inr ⟨_, by rw [HM.out]; exact List.take_prefix _ _, hJx3⟩⟩
    · obtain rfl : k = L.length := by omega
      gi_wp2
      go_end0
      exact ⟨⟨_, rfl⟩, .inl ⟨L, rfl, by rwa [List.take_length] at hJk⟩⟩

/-- The iterator's contract. -/
theorem each_stops (F : Fence) (n : Nat) (h51 : F.fn 42) (hro : F.round = none) (hn : 1 ≤ n) (Bn : Nat) (v : Value) (L : List Int) (hlen : L.length ≤ 1000000) (w : World) (hB : Boxed w Bn 28 v) (hL : Lst w v L) :
    SeqStopsK F n Try.prog 42 #[.pointer (some ⟨Bn, 0, none⟩)] (fun x : Int => #[Value.int .i64 x]) (Kl Bn v) (fun ys => ys = L) (fun pre => pre <+: L) L.length w := fun l J Jx W hW _ _ hY h0 =>
  each1_in F n h51 hro hn l Bn v L hlen J Jx hY W ((below_ext hW).keep hB (by simp)) (hL.keep0 (below_ext hW)) h0

/-- The iterator's value. -/
def itv (Bn : Nat) : Value := .func (.func 42) #[] #[.pointer (some ⟨Bn, 0, none⟩)]

theorem values_any (v : Value) (a : Option Addr) (n c : Nat) (hv : v = .slice a n c) (w : World) : Calls Try.prog 39 #[v] w fun e w' => e = .returned (itv w.heap.size) ∧ w' = w.alloc (.cells #[v] 28) := by
  subst hv
  go_enter Try.func39, Try.ntmps39
  go_wp2
  go_ret
  exact ⟨rfl, rfl⟩

end Go.Proofs.Ytbjplfbplkjibaa
