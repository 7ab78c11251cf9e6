/-
  take, release, Alloc and Free: how a list of runs turns; no statement is proved here.
-/
import Derived.Test.YtlajjcboahflbaaDoorRep
import Derived.Test.YtlajjcboahflbaaDoorLargest
namespace Go.Proofs.YtlajjcboahflbaaDoor
open Go.RowKit

/-- One cell of a row of one's own is written. -/
theorem own_set {w : World} {base : Nat} {e : TypeId} {s n g c : Nat} {xs : List Value} (h : w.ownsRow base e s (.slice (some ⟨g, 0, none⟩) n c) n xs) (i : Nat) (v : Value) : (w.setCell ⟨g, i, none⟩ v).ownsRow base e s (.slice (some ⟨g, 0, none⟩) n c) n (xs.set i v) := by
  refine ⟨by rw [List.length_set]; exact h.1, ?_⟩
  rcases h.2 with ⟨h1, _⟩ | ⟨g', cap, cur, h0, h1, h2, h3, h4, h5, h6⟩
  · cases h1
  · cases h0
    refine .inr ⟨g, c, cur.setIfInBounds i v, rfl, h1, heap_setCell_same w g i _ _ _ h2, h3, h4, by simpa using h5, ?_⟩
    rw [Array.toList_setIfInBounds, List.take_set, h6]

theorem rcells_set (y : Rn) : ∀ (L : List Rn) (i : Nat), i < L.length → (((rcells L).set (i * 3) (.int .i64 y.s)).set (i * 3 + 1) (.int .i64 y.n)).set (i * 3 + 2) (.bool y.u) = rcells (L.set i y)
  | [], i, h => by simp at h
  | r :: L, 0, _ => by simp [rcells_cons, Rn.cells]
  | r :: L, i + 1, h => by
    have ih := rcells_set y L i (by simpa using h)
    rw [List.set_cons_succ, rcells_cons, rcells_cons, ← ih]
    simp only [Rn.cells]
    rw [show (i + 1) * 3 = i * 3 + 3 by omega]
    simp [Nat.add_assoc]

theorem Lst.set {w : World} {g c : Nat} {L : List Rn} (h : Lst w (.slice (some ⟨g, 0, none⟩) L.length c) L) {i : Nat} (hi : i < L.length) (y : Rn) :
    Lst (((w.setCell ⟨g, i * 3, none⟩ (.int .i64 y.s)).setCell ⟨g, i * 3 + 1, none⟩ (.int .i64 y.n)).setCell ⟨g, i * 3 + 2, none⟩ (.bool y.u)) (.slice (some ⟨g, 0, none⟩) L.length c) (L.set i y) := by
  have h3 := own_set (own_set (own_set h (i * 3) (.int .i64 y.s)) (i * 3 + 1) (.int .i64 y.n)) (i * 3 + 2) (.bool y.u)
  rw [rcells_set y L i hi] at h3
  unfold Lst
  rw [List.length_set]
  exact h3

/-- How pages have turned. -/
def TkPost (T : TypeId) (ox : Nat) (cs : Array Value) (w : World) (p : Nat) (v : Value) (L' : List Rn) (e : Ending) (w' : World) : Prop :=
  ∃ v', e = .returned (.tuple #[]) ∧ Rs T ox cs w' p v' L' ∧ OldNew w v v' ∧ Ext (p :: v.ownBlock.toList) w w'

theorem tk_fin {T : TypeId} {ox : Nat} {cs : Array Value} {w wa w2 : World} {p : Nat} {v v' : Value} {L' : List Rn} (hb2 : Bx T ox cs w2 p (v)) (hL2 : Lst w2 v' L') (hON : OldNew wa v v') (hwa : w.heap.size ≤ wa.heap.size) (hX2 : Ext (p :: v.ownBlock.toList) w w2) : TkPost T ox cs w p v L' (.returned (.tuple #[])) (w2.setCell ⟨p, ox + 1, none⟩ v') :=
  ⟨v', rfl, ⟨hset3 hb2 v', hL2.keep (Ext.setCell [p] _ _ _ (by simp)) (by simpa using own_ne hL2 hb2.at_ hb2.ty)⟩, hON.imp id (fun h g hg => by have := h g hg; omega), hX2.trans (Ext.setCell _ _ _ _ (by simp))⟩

def takeL (L : List Rn) (i n : Nat) : List Rn :=
  L.take i ++ [⟨(rnAt L i).s, n, true⟩] ++ (if n < (rnAt L i).n then [⟨(rnAt L i).s + n, (rnAt L i).n - n, false⟩] else []) ++ L.drop (i + 1)

theorem set_eq (L : List Rn) (i : Nat) (h : i < L.length) (y : Rn) : L.set i y = L.take i ++ [y] ++ L.drop (i + 1) := by
  rw [List.set_eq_take_append_cons_drop, if_pos h]; simp

set_option maxRecDepth 100000 in
set_option maxHeartbeats 4000000 in
theorem take_any {T : TypeId} {ox : Nat} {cs : Array Value} (p i n : Nat) (v : Value) (L : List Rn) (w : World) (hR : Rs T ox cs w p v L) (hi : i < L.length) (hb : (rnAt L i).s + (rnAt L i).n ≤ 1024) (hlen : L.length ≤ 10000) :
    Calls Tryd.prog 84 #[.pointer (some ⟨p, ox + 1, none⟩), .int .i64 i, .int .i64 n] w (TkPost T ox cs w p v (takeL L i n)) := by
  obtain ⟨g, c, rfl, hnc, hcm, hgl, hcs⟩ := hR.row.at_ (by omega)
  obtain ⟨c0, c1, c2⟩ := hcs i hi
  have hc := hR.cell
  have hpg : p ≠ g := by rintro rfl; exact hR.ne rfl
  obtain ⟨x, hx⟩ : ∃ x, x = rnAt L i := ⟨_, rfl⟩
  rw [← hx] at c0 c1 c2 hb
  have hpl := hR.lt
  -- the row behind the first store
  have HW1 : Hid (∀ W1, W1 = ((((w.setCell ⟨g, i * 3, none⟩ (.int .i64 x.s)).setCell ⟨g, i * 3 + 1, none⟩ (.int .i64 n)).setCell ⟨g, i * 3 + 2, none⟩ (.bool true)).alloc (.cells #[.int .i64 x.s, .int .i64 x.n, .bool x.u] 38)).drew → Rs T ox cs W1 p (.slice (some ⟨g, 0, none⟩) L.length c) (L.set i ⟨x.s, n, true⟩) ∧ One W1 w.heap.size x ∧ Ext [g] w W1) := by
    rintro W1 rfl
    have e1 : Ext [g] w (((w.setCell ⟨g, i * 3, none⟩ (.int .i64 x.s)).setCell ⟨g, i * 3 + 1, none⟩ (.int .i64 n)).setCell ⟨g, i * 3 + 2, none⟩ (.bool true)) := ((Ext.setCell [g] w _ _ (by simp)).trans (Ext.setCell [g] _ _ _ (by simp))).trans (Ext.setCell [g] _ _ _ (by simp))
    have e2 := (Ext.alloc [] (((w.setCell ⟨g, i * 3, none⟩ (.int .i64 x.s)).setCell ⟨g, i * 3 + 1, none⟩ (.int .i64 n)).setCell ⟨g, i * 3 + 2, none⟩ (.bool true)) (.cells #[.int .i64 x.s, .int .i64 x.n, .bool x.u] 38)).trans (Ext.drew [] _)
    have hl := hR.row.set hi ⟨x.s, n, true⟩
    refine ⟨⟨(hR.box.keep e1 (by simpa using hpg)).keep e2 (by simp), hl.keep0 e2⟩, ?_, e1.trans (e2.mono (by simp))⟩
    have := heap_alloc_new (((w.setCell ⟨g, i * 3, none⟩ (.int .i64 x.s)).setCell ⟨g, i * 3 + 1, none⟩ (.int .i64 n)).setCell ⟨g, i * 3 + 2, none⟩ (.bool true)) (.cells #[.int .i64 x.s, .int .i64 x.n, .bool x.u] 38)
    have hs : (((w.setCell ⟨g, i * 3, none⟩ (.int .i64 x.s)).setCell ⟨g, i * 3 + 1, none⟩ (.int .i64 n)).setCell ⟨g, i * 3 + 2, none⟩ (.bool true)).heap.size = w.heap.size := by simp
    rw [hs] at this
    exact this
  have fg : ∀ j, w.frozen? ⟨g, j, none⟩ = false := fun j => by
    rcases hR.row.2 with ⟨h0, _⟩ | ⟨g', c', cur, hv, _, hg, _⟩
    · cases h0
    · simp only [Value.slice.injEq, Option.some.injEq, Addr.mk.injEq, and_true, true_and] at hv
      obtain ⟨rfl, rfl⟩ := hv
      exact frozen_of_row _ _ _ _ _ hg
  have f0 := fg (i * 3)
  have f1 := fg (i * 3 + 1)
  have f2 := fg (i * 3 + 2)
  unfold maxLen at hcm
  have HR := hid hR
  have HX := hid hx
  clear hR hx hcs fg
  generalize hl : L.length = len at *
  have HLen := hid hl
  clear hl
  go_enter Tryd.func84, Tryd.ntmps84
  go_wp2_with fail
  go_region
  obtain ⟨W1, hW1⟩ : ∃ W1, W1 = ((((w.setCell ⟨g, i * 3, none⟩ (.int .i64 x.s)).setCell ⟨g, i * 3 + 1, none⟩ (.int .i64 n)).setCell ⟨g, i * 3 + 2, none⟩ (.bool true)).alloc (.cells #[.int .i64 x.s, .int .i64 x.n, .bool x.u] 38)).drew := ⟨_, rfl⟩
  obtain ⟨hR1, hO1, hX1⟩ := HW1.out W1 hW1
  rw [← hW1]
  clear hW1 HW1 c0 c1 c2 f0 f1 f2
  have hwl : w.heap.size < W1.heap.size := lt_of_heap hO1
  have d0 : W1.cell? ⟨w.heap.size, 0, none⟩ = some (.int .i64 x.s) := by rw [cell_of_row _ _ _ _ _ _ hO1]; rfl
  have d1 : W1.cell? ⟨w.heap.size, 1, none⟩ = some (.int .i64 x.n) := by rw [cell_of_row _ _ _ _ _ _ hO1]; rfl
  have e0 := hR1.cell
  have ef := hR1.frozen
  have hpl1 := hR1.lt
  have HR1 := hid hR1
  have HX1 := hid hX1
  have HO1 := hid hO1
  clear hR1 hX1 hO1 hc
  by_cases hlt : n < x.n
  · have hE2 : Ext [] W1 (W1.alloc (.cells #[.int .i64 ((x.s : Int) + n), .int .i64 ((x.n : Int) - n), .bool false] 38)).drew := (Ext.alloc [] _ _).trans (Ext.drew [] _)
    have hy : One (W1.alloc (.cells #[.int .i64 ((x.s : Int) + n), .int .i64 ((x.n : Int) - n), .bool false] 38)).drew W1.heap.size ⟨x.s + n, x.n - n, false⟩ := by
      have := heap_alloc_new W1 (.cells #[.int .i64 ((x.s : Int) + n), .int .i64 ((x.n : Int) - n), .bool false] 38)
      unfold One
      rw [show ((x.s + n : Nat) : Int) = (x.s : Int) + n by omega, show ((x.n - n : Nat) : Int) = (x.n : Int) - n by omega]
      exact this
    have hLl : (L.set i ⟨x.s, n, true⟩).length = len := by rw [List.length_set, HLen.out]
    have K := insert_any (.slice (some ⟨g, 0, none⟩) len c) (i + 1) (L.set i ⟨x.s, n, true⟩) _ (HR1.out.row.keep0 hE2) (by omega) (by omega) (by omega) W1.heap.size _ hy (by
      intro h
      have := (own_lt HR1.out.row _ h).2
      omega)
    rw [show ((i + 1 : Nat) : Int) = (i : Int) + 1 by omega] at K
    have HB : Hid (∀ w2, Ext [g] (W1.alloc (.cells #[.int .i64 ((x.s : Int) + n), .int .i64 ((x.n : Int) - n), .bool false] 38)).drew w2 → Bx T ox cs w2 p (.slice (some ⟨g, 0, none⟩) len c) ∧ Ext [p, g] w w2) := fun w2 h =>
      ⟨(HR1.out.box.keep hE2 (by simp)).keep h (by simpa using hpg), (((HX1.out.trans (hE2.mono (by simp))).trans h).mono (by simp))⟩
    have HL' : Hid ((L.set i ⟨x.s, n, true⟩).take (i + 1) ++ [⟨x.s + n, x.n - n, false⟩] ++ (L.set i ⟨x.s, n, true⟩).drop (i + 1) = takeL L i n) := by
      show _ = _
      have hl : i < L.length := by rw [HLen.out]; exact hi
      unfold takeL
      rw [← HX.out, if_pos hlt, set_eq L i hl]
      rw [List.take_left' (by simp; omega), List.drop_left' (by simp; omega)]
    clear hy hE2 hLl
    have hw2 : IntKind.i64.wrap ((i : Int) + 1) = (i : Int) + 1 := by rw [IntKind.wrap_i64]; omega
    have hw3 : IntKind.i64.wrap ((x.s : Int) + n) = (x.s : Int) + n := by rw [IntKind.wrap_i64]; omega
    have hw4 : IntKind.i64.wrap ((x.n : Int) - n) = (x.n : Int) - n := by rw [IntKind.wrap_i64]; omega
    go_wp2_with fail
    go_region_law (go_simp; go_wp2_with (first | (go_at_call 87; refine K.mono ?_; clear K; rintro e w2 ⟨v', rfl, hL2, hON, hE3⟩; obtain ⟨hb2, hX2⟩ := HB.out w2 hE3; have k0 : w2.cell? ⟨p, ox + 1, none⟩ = some (.slice (some ⟨g, 0, none⟩) len c) := hcell3 hb2; have kf := frozen_of_row w2 p (ox + 1) _ _ hb2.at_; obtain ⟨a', c', hv', _⟩ := hL2.slice; rw [HL'.out] at hL2 hv'; subst hv')))
    all_goals
      go_end0
      exact tk_fin hb2 hL2 hON (by simp; omega) hX2
  · have HF : Hid (TkPost T ox cs w p (.slice (some ⟨g, 0, none⟩) len c) (takeL L i n) (.returned (.tuple #[])) W1) := by
      refine ⟨_, rfl, ?_, .inl rfl, HX1.out.mono (by simp [Value.ownBlock])⟩
      have := HR1.out
      rw [set_eq L i (by rw [HLen.out]; exact hi)] at this
      unfold takeL
      rw [← HX.out, if_neg hlt, List.append_nil]
      exact this
    go_wp2_with fail
    go_end0
    exact HF.out

end Go.Proofs.YtlajjcboahflbaaDoor
