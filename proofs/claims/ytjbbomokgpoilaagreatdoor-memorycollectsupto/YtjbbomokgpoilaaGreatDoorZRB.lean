/-
  Take, Free, Calls, RMath: joined by program; no statement is proved here.
-/
import Derived.Test.YtjbbomokgpoilaaGreatDoorZRA
import Derived.Deep.Cut
/-
  take, release, Alloc and Free: how a list of runs turns; no statement is proved here.
-/
namespace Go.Proofs.YtjbbomokgpoilaaGreatDoor
open Go.RowKit

/-- One cell of a row of one's own is written. -/
theorem own_set {w : World} {base : Nat} {e : TypeId} {s n g c : Nat} {xs : List Value} (h : w.ownsRow base e s (.slice (some ⟨g, 0, none⟩) n c) n xs) (i : Nat) (v : Value) : (w.setCell ⟨g, i, none⟩ v).ownsRow base e s (.slice (some ⟨g, 0, none⟩) n c) n (xs.set i v) := by
  refine ⟨by rw [List.length_set]; exact h.1, ?_⟩
  rcases h.2 with ⟨h1, _⟩ | ⟨g', cap, cur, h0, h1, h2, h3, h4, h5, h6⟩
  · cases h1
  · cases h0
    refine .inr ⟨g, c, cur.setIfInBounds i v, rfl, h1, heap_setCell_same w g i _ _ _ h2, h3, h4, by simpa using h5, ?_⟩
    rw [Array.toList_setIfInBounds, List.take_set, h6]

theorem rcells_set (y : Rn) : ∀ (L : List Rn) (i : Nat), i < L.length → (((rcells L).set (i * 3) (.int .i64 y.s)).set (i * 3 + 1) (.int .i64 y.n)).set (i * 3 + 2) (.bool y.u) = rcells (L.set i y)
  | [], i, h => by simp at h
  | r :: L, 0, _ => by simp [rcells_cons, Rn.cells]
  | r :: L, i + 1, h => by
    have ih := rcells_set y L i (by simpa using h)
    rw [List.set_cons_succ, rcells_cons, rcells_cons, ← ih]
    simp only [Rn.cells]
    rw [show (i + 1) * 3 = i * 3 + 3 by omega]
    simp [Nat.add_assoc]

theorem Lst.set {w : World} {g c : Nat} {L : List Rn} (h : Lst w (.slice (some ⟨g, 0, none⟩) L.length c) L) {i : Nat} (hi : i < L.length) (y : Rn) :
    Lst (((w.setCell ⟨g, i * 3, none⟩ (.int .i64 y.s)).setCell ⟨g, i * 3 + 1, none⟩ (.int .i64 y.n)).setCell ⟨g, i * 3 + 2, none⟩ (.bool y.u)) (.slice (some ⟨g, 0, none⟩) L.length c) (L.set i y) := by
  have h3 := own_set (own_set (own_set h (i * 3) (.int .i64 y.s)) (i * 3 + 1) (.int .i64 y.n)) (i * 3 + 2) (.bool y.u)
  rw [rcells_set y L i hi] at h3
  unfold Lst
  rw [List.length_set]
  exact h3

/-- How pages have turned. -/
def TkPost (T : TypeId) (ox : Nat) (cs : Array Value) (w : World) (p : Nat) (v : Value) (L' : List Rn) (e : Ending) (w' : World) : Prop :=
  ∃ v', e = .returned (.tuple #[]) ∧ Rs T ox cs w' p v' L' ∧ OldNew w v v' ∧ Ext (p :: v.ownBlock.toList) w w'

theorem tk_fin {T : TypeId} {ox : Nat} {cs : Array Value} {w wa w2 : World} {p : Nat} {v v' : Value} {L' : List Rn} (hb2 : Bx T ox cs w2 p (v)) (hL2 : Lst w2 v' L') (hON : OldNew wa v v') (hwa : w.heap.size ≤ wa.heap.size) (hX2 : Ext (p :: v.ownBlock.toList) w w2) : TkPost T ox cs w p v L' (.returned (.tuple #[])) (w2.setCell ⟨p, ox + 1, none⟩ v') :=
  ⟨v', rfl, ⟨hset3 hb2 v', hL2.keep (Ext.setCell [p] _ _ _ (by simp)) (by simpa using own_ne hL2 hb2.at_ hb2.ty)⟩, hON.imp id (fun h g hg => by have := h g hg; omega), hX2.trans (Ext.setCell _ _ _ _ (by simp))⟩

def takeL (L : List Rn) (i n : Nat) : List Rn :=
  L.take i ++ [⟨(rnAt L i).s, n, true⟩] ++ (if n < (rnAt L i).n then [⟨(rnAt L i).s + n, (rnAt L i).n - n, false⟩] else []) ++ L.drop (i + 1)

theorem set_eq (L : List Rn) (i : Nat) (h : i < L.length) (y : Rn) : L.set i y = L.take i ++ [y] ++ L.drop (i + 1) := by
  rw [List.set_eq_take_append_cons_drop, if_pos h]; simp

set_option maxRecDepth 100000 in
set_option maxHeartbeats 4000000 in
theorem take_any {T : TypeId} {ox : Nat} {cs : Array Value} (p i n : Nat) (v : Value) (L : List Rn) (w : World) (hR : Rs T ox cs w p v L) (hi : i < L.length) (hb : (rnAt L i).s + (rnAt L i).n ≤ 1024) (hlen : L.length ≤ 10000) :
    Calls Tryz.prog 131 #[.pointer (some ⟨p, ox + 1, none⟩), .int .i64 i, .int .i64 n] w (TkPost T ox cs w p v (takeL L i n)) := by
  obtain ⟨g, c, rfl, hnc, hcm, hgl, hcs⟩ := hR.row.at_ (by omega)
  obtain ⟨c0, c1, c2⟩ := hcs i hi
  have hc := hR.cell
  have hpg : p ≠ g := by rintro rfl; exact hR.ne rfl
  obtain ⟨x, hx⟩ : ∃ x, x = rnAt L i := ⟨_, rfl⟩
  rw [← hx] at c0 c1 c2 hb
  have hpl := hR.lt
  -- the row behind the first store
  have HW1 : Hid (∀ W1, W1 = ((((w.setCell ⟨g, i * 3, none⟩ (.int .i64 x.s)).setCell ⟨g, i * 3 + 1, none⟩ (.int .i64 n)).setCell ⟨g, i * 3 + 2, none⟩ (.bool true)).alloc (.cells #[.int .i64 x.s, .int .i64 x.n, .bool x.u] 98)).drew → Rs T ox cs W1 p (.slice (some ⟨g, 0, none⟩) L.length c) (L.set i ⟨x.s, n, true⟩) ∧ One W1 w.heap.size x ∧ Ext [g] w W1) := by
    rintro W1 rfl
    have e1 : Ext [g] w (((w.setCell ⟨g, i * 3, none⟩ (.int .i64 x.s)).setCell ⟨g, i * 3 + 1, none⟩ (.int .i64 n)).setCell ⟨g, i * 3 + 2, none⟩ (.bool true)) := ((Ext.setCell [g] w _ _ (by simp)).trans (Ext.setCell [g] _ _ _ (by simp))).trans (Ext.setCell [g] _ _ _ (by simp))
    have e2 := (Ext.alloc [] (((w.setCell ⟨g, i * 3, none⟩ (.int .i64 x.s)).setCell ⟨g, i * 3 + 1, none⟩ (.int .i64 n)).setCell ⟨g, i * 3 + 2, none⟩ (.bool true)) (.cells #[.int .i64 x.s, .int .i64 x.n, .bool x.u] 98)).trans (Ext.drew [] _)
    have hl := hR.row.set hi ⟨x.s, n, true⟩
    refine ⟨⟨(hR.box.keep e1 (by simpa using hpg)).keep e2 (by simp), hl.keep0 e2⟩, ?_, e1.trans (e2.mono (by simp))⟩
    have := heap_alloc_new (((w.setCell ⟨g, i * 3, none⟩ (.int .i64 x.s)).setCell ⟨g, i * 3 + 1, none⟩ (.int .i64 n)).setCell ⟨g, i * 3 + 2, none⟩ (.bool true)) (.cells #[.int .i64 x.s, .int .i64 x.n, .bool x.u] 98)
    have hs : (((w.setCell ⟨g, i * 3, none⟩ (.int .i64 x.s)).setCell ⟨g, i * 3 + 1, none⟩ (.int .i64 n)).setCell ⟨g, i * 3 + 2, none⟩ (.bool true)).heap.size = w.heap.size := by simp
    rw [hs] at this
    exact this
  have fg : ∀ j, w.frozen? ⟨g, j, none⟩ = false := fun j => by
    rcases hR.row.2 with ⟨h0, _⟩ | ⟨g', c', cur, hv, _, hg, _⟩
    · cases h0
    · simp only [Value.slice.injEq, Option.some.injEq, Addr.mk.injEq, and_true, true_and] at hv
      obtain ⟨rfl, rfl⟩ := hv
      exact frozen_of_row _ _ _ _ _ hg
  have f0 := fg (i * 3)
  have f1 := fg (i * 3 + 1)
  have f2 := fg (i * 3 + 2)
  unfold maxLen at hcm
  have HR := hid hR
  have HX := hid hx
  clear hR hx hcs fg
  generalize hl : L.length = len at *
  have HLen := hid hl
  clear hl
  go_enter Tryz.func131, Tryz.ntmps131
  go_wp2_with fail
  go_region
  obtain ⟨W1, hW1⟩ : ∃ W1, W1 = ((((w.setCell ⟨g, i * 3, none⟩ (.int .i64 x.s)).setCell ⟨g, i * 3 + 1, none⟩ (.int .i64 n)).setCell ⟨g, i * 3 + 2, none⟩ (.bool true)).alloc (.cells #[.int .i64 x.s, .int .i64 x.n, .bool x.u] 98)).drew := ⟨_, rfl⟩
  obtain ⟨hR1, hO1, hX1⟩ := HW1.out W1 hW1
  rw [← hW1]
  clear hW1 HW1 c0 c1 c2 f0 f1 f2
  have hwl : w.heap.size < W1.heap.size := lt_of_heap hO1
  have d0 : W1.cell? ⟨w.heap.size, 0, none⟩ = some (.int .i64 x.s) := by rw [cell_of_row _ _ _ _ _ _ hO1]; rfl
  have d1 : W1.cell? ⟨w.heap.size, 1, none⟩ = some (.int .i64 x.n) := by rw [cell_of_row _ _ _ _ _ _ hO1]; rfl
  have e0 := hR1.cell
  have ef := hR1.frozen
  have hpl1 := hR1.lt
  have HR1 := hid hR1
  have HX1 := hid hX1
  have HO1 := hid hO1
  clear hR1 hX1 hO1 hc
  by_cases hlt : n < x.n
  · have hE2 : Ext [] W1 (W1.alloc (.cells #[.int .i64 ((x.s : Int) + n), .int .i64 ((x.n : Int) - n), .bool false] 98)).drew := (Ext.alloc [] _ _).trans (Ext.drew [] _)
    have hy : One (W1.alloc (.cells #[.int .i64 ((x.s : Int) + n), .int .i64 ((x.n : Int) - n), .bool false] 98)).drew W1.heap.size ⟨x.s + n, x.n - n, false⟩ := by
      have := heap_alloc_new W1 (.cells #[.int .i64 ((x.s : Int) + n), .int .i64 ((x.n : Int) - n), .bool false] 98)
      unfold One
      rw [show ((x.s + n : Nat) : Int) = (x.s : Int) + n by omega, show ((x.n - n : Nat) : Int) = (x.n : Int) - n by omega]
      exact this
    have hLl : (L.set i ⟨x.s, n, true⟩).length = len := by rw [List.length_set, HLen.out]
    have K := insert_any (.slice (some ⟨g, 0, none⟩) len c) (i + 1) (L.set i ⟨x.s, n, true⟩) _ (HR1.out.row.keep0 hE2) (by omega) (by omega) (by omega) W1.heap.size _ hy (by
      intro h
      have := (own_lt HR1.out.row _ h).2
      omega)
    rw [show ((i + 1 : Nat) : Int) = (i : Int) + 1 by omega] at K
    have HB : Hid (∀ w2, Ext [g] (W1.alloc (.cells #[.int .i64 ((x.s : Int) + n), .int .i64 ((x.n : Int) - n), .bool false] 98)).drew w2 → Bx T ox cs w2 p (.slice (some ⟨g, 0, none⟩) len c) ∧ Ext [p, g] w w2) := fun w2 h =>
      ⟨(HR1.out.box.keep hE2 (by simp)).keep h (by simpa using hpg), (((HX1.out.trans (hE2.mono (by simp))).trans h).mono (by simp))⟩
    have HL' : Hid ((L.set i ⟨x.s, n, true⟩).take (i + 1) ++ [⟨x.s + n, x.n - n, false⟩] ++ (L.set i ⟨x.s, n, true⟩).drop (i + 1) = takeL L i n) := by
      show _ = _
      have hl : i < L.length := by rw [HLen.out]; exact hi
      unfold takeL
      rw [← HX.out, if_pos hlt, set_eq L i hl]
      rw [List.take_left' (by simp; omega), List.drop_left' (by simp; omega)]
    clear hy hE2 hLl
    have hw2 : IntKind.i64.wrap ((i : Int) + 1) = (i : Int) + 1 := by rw [IntKind.wrap_i64]; omega
    have hw3 : IntKind.i64.wrap ((x.s : Int) + n) = (x.s : Int) + n := by rw [IntKind.wrap_i64]; omega
    have hw4 : IntKind.i64.wrap ((x.n : Int) - n) = (x.n : Int) - n := by rw [IntKind.wrap_i64]; omega
    go_wp2_with fail
    go_region_law (go_simp; go_wp2_with (first | (go_at_call 133; refine K.mono ?_; clear K; rintro e w2 ⟨v', rfl, hL2, hON, hE3⟩; obtain ⟨hb2, hX2⟩ := HB.out w2 hE3; have k0 : w2.cell? ⟨p, ox + 1, none⟩ = some (.slice (some ⟨g, 0, none⟩) len c) := hcell3 hb2; have kf := frozen_of_row w2 p (ox + 1) _ _ hb2.at_; obtain ⟨a', c', hv', _⟩ := hL2.slice; rw [HL'.out] at hL2 hv'; subst hv')))
    all_goals
      go_end0
      exact tk_fin hb2 hL2 hON (by simp; omega) hX2
  · have HF : Hid (TkPost T ox cs w p (.slice (some ⟨g, 0, none⟩) len c) (takeL L i n) (.returned (.tuple #[])) W1) := by
      refine ⟨_, rfl, ?_, .inl rfl, HX1.out.mono (by simp [Value.ownBlock])⟩
      have := HR1.out
      rw [set_eq L i (by rw [HLen.out]; exact hi)] at this
      unfold takeL
      rw [← HX.out, if_neg hlt, List.append_nil]
      exact this
    go_wp2_with fail
    go_end0
    exact HF.out

end Go.Proofs.YtjbbomokgpoilaaGreatDoor

/-
  release: a run is given back and joined with its neighbours; no statement is proved here.
-/
namespace Go.Proofs.YtjbbomokgpoilaaGreatDoor
open Go.RowKit

/-- The first run that is joined, and the first behind the last. -/
def relF (L : List Rn) (i : Nat) : Nat := if 0 < i ∧ (rnAt L (i - 1)).u = false then i - 1 else i
def relE (L : List Rn) (i : Nat) : Nat := if i + 1 < L.length ∧ (rnAt L (i + 1)).u = false then i + 2 else i + 1
/-- The pages of the first k runs of a list. -/
def sumTo (L : List Rn) : Nat → Nat
  | 0 => 0
  | k + 1 => sumTo L k + (rnAt L k).n
def relJ (L : List Rn) (i : Nat) : Rn := ⟨(rnAt L (relF L i)).s, sumTo (L.drop (relF L i)) (relE L i - relF L i), false⟩
def relL (L : List Rn) (i : Nat) : List Rn := L.take (relF L i) ++ [relJ L i] ++ L.drop (relE L i)

theorem relF_le (L : List Rn) (i : Nat) : relF L i ≤ i := by unfold relF; split <;> omega
theorem relE_gt (L : List Rn) (i : Nat) : i < relE L i := by unfold relE; split <;> omega
theorem relE_le (L : List Rn) (i : Nat) (h : i < L.length) : relE L i ≤ L.length := by unfold relE; split <;> omega
theorem rnAt_drop (L : List Rn) (f k : Nat) : rnAt (L.drop f) k = rnAt L (f + k) := by simp [rnAt, List.getD]

/-- All runs of a list hold few pages. -/
def Few (L : List Rn) : Prop := ∀ k, k ≤ L.length → ∀ f, f ≤ k → sumTo (L.drop f) (k - f) ≤ 1024

set_option maxRecDepth 100000 in
set_option maxHeartbeats 4000000 in
theorem release_any {T : TypeId} {ox : Nat} {cs : Array Value} (p i : Nat) (v : Value) (L : List Rn) (w : World) (hR : Rs T ox cs w p v L) (hi : i < L.length) (hf : Few L) (hlen : L.length ≤ 10000) :
    Calls Tryz.prog 128 #[.pointer (some ⟨p, ox + 1, none⟩), .int .i64 i] w (TkPost T ox cs w p v (relL L i)) := by
  obtain ⟨g, c, rfl, hnc, hcm, hgl, hcs⟩ := hR.row.at_ (by omega)
  have hc := hR.cell
  have hpg : p ≠ g := by rintro rfl; exact hR.ne rfl
  have hpl := hR.lt
  have HR := hid hR
  have HC := hid hcs
  unfold maxLen at hcm
  clear hR hcs
  have HFF : Hid (∀ b, (0 < i ∧ (rnAt L (i - 1)).u = false → b = i - 1) → (¬ (0 < i ∧ (rnAt L (i - 1)).u = false) → b = i) → b = relF L i) := fun b h1 h2 => by
    unfold relF; split
    · exact h1 ‹_›
    · exact h2 ‹_›
  have HEE : Hid (∀ b, (i + 1 < L.length ∧ (rnAt L (i + 1)).u = false → b = i + 2) → (¬ (i + 1 < L.length ∧ (rnAt L (i + 1)).u = false) → b = i + 1) → b = relE L i) := fun b h1 h2 => by
    unfold relE; split
    · exact h1 ‹_›
    · exact h2 ‹_›
  have hfl := relF_le L i
  have hel := relE_gt L i
  have heu := relE_le L i hi
  have HFew := hid hf
  have HRL : Hid (relL L i = L.take (relF L i) ++ [⟨(rnAt L (relF L i)).s, sumTo (L.drop (relF L i)) (relE L i - relF L i), false⟩] ++ L.drop (relE L i)) := rfl
  clear hf
  generalize relF L i = f at *
  generalize relE L i = e at *
  generalize relL L i = L' at *
  generalize hl : L.length = len at *
  have HLen := hid hl
  clear hl
  go_enter Tryz.func128, Tryz.ntmps128
  go_upto_region 1 with fail
  go_cut [25] from 12 (fun a wc => a = .bool (decide (0 < i ∧ (rnAt L (i - 1)).u = false)) ∧ wc = w)
  case first =>
    by_cases h0 : 0 < i
    · obtain ⟨_, _, c2⟩ := HC.out (i - 1) (by omega)
      have e1 : ((i : Int) - 1) = ((i - 1 : Nat) : Int) := by omega
      have hd : decide ((i : Int) > 0) = true := by simp; omega
      have hil : i - 1 < len := by omega
      have HT : Hid (decide (0 < i ∧ (rnAt L (i - 1)).u = false) = !(rnAt L (i - 1)).u) := by
        show _ = _
        cases (rnAt L (i - 1)).u <;> simp [h0]
      generalize (rnAt L (i - 1)).u = b at *
      generalize i - 1 = k at *
      go_wp2_with fail
      go_meet
      exact ⟨by rw [HT.out], rfl⟩
    · have HT : Hid (decide (0 < i ∧ (rnAt L (i - 1)).u = false) = false) := by
        show _ = _
        simp [h0]
      go_wp2_with fail
      go_meet
      exact ⟨by rw [HT.out], rfl⟩
  case rest =>
    obtain ⟨rfl, rfl⟩ := hcut
    have HF1 : Hid ((decide (0 < i ∧ (rnAt L (i - 1)).u = false) = true → ((i : Int) - 1) = (f : Nat)) ∧ (decide (0 < i ∧ (rnAt L (i - 1)).u = false) = false → i = f)) := by
      refine ⟨fun h => ?_, fun h => ?_⟩
      · have h1 := of_decide_eq_true h
        have := HFF.out (i - 1) (fun _ => rfl) (fun h => absurd h1 h)
        omega
      · have h1 := of_decide_eq_false h
        exact HFF.out i (fun h => absurd h h1) (fun _ => rfl)
    generalize decide (0 < i ∧ (rnAt L (i - 1)).u = false) = b1 at *
    go_upto_if 25 with fail
    go_cut [4] from 12 (fun a wd => a = .int .i64 (f : Nat) ∧ wd = wc)
    case first =>
      cases b1
      · have h := HF1.out.2 rfl
        have H := hid h
        clear h
        go_wp2_with fail
        go_meet
        exact ⟨by rw [← H.out], rfl⟩
      · have h := HF1.out.1 rfl
        have H := hid h
        clear h
        go_wp2_with fail
        go_meet
        exact ⟨by rw [← H.out], rfl⟩
    case rest =>
      obtain ⟨rfl, rfl⟩ := hcut
      clear HF1
      go_upto_region 3 with fail
      go_cut [45] from 12 (fun a wd => a = .bool (decide (i + 1 < len ∧ (rnAt L (i + 1)).u = false)) ∧ wd = wc)
      case first =>
        by_cases h0 : i + 1 < len
        · obtain ⟨_, _, c2⟩ := HC.out (i + 1) (by omega)
          have e1 : ((i : Int) + 1) = ((i + 1 : Nat) : Int) := by omega
          have hd : decide ((i : Int) + 1 < len) = true := by simp; omega
          have HT : Hid (decide (i + 1 < len ∧ (rnAt L (i + 1)).u = false) = !(rnAt L (i + 1)).u) := by
            show _ = _
            cases (rnAt L (i + 1)).u <;> simp [h0]
          generalize (rnAt L (i + 1)).u = b at *
          generalize hk : i + 1 = k at *
          go_wp2_with fail
          go_meet
          exact ⟨by rw [HT.out], rfl⟩
        · have HT : Hid (decide (i + 1 < len ∧ (rnAt L (i + 1)).u = false) = false) := by
            show _ = _
            simp [h0]
          have hd : decide ((i : Int) + 1 < len) = false := by simp; omega
          go_wp2_with fail
          go_meet
          exact ⟨by rw [HT.out], rfl⟩
      case rest =>
        obtain ⟨rfl, rfl⟩ := hcut
        have HF1 : Hid ((decide (i + 1 < len ∧ (rnAt L (i + 1)).u = false) = true → i + 2 = e) ∧ (decide (i + 1 < len ∧ (rnAt L (i + 1)).u = false) = false → i + 1 = e)) := by
          refine ⟨fun h => ?_, fun h => ?_⟩
          · have h1 := of_decide_eq_true h
            exact HEE.out (i + 2) (fun _ => rfl) (fun h => absurd h1 h)
          · have h1 := of_decide_eq_false h
            exact HEE.out (i + 1) (fun h => absurd h h1) (fun _ => rfl)
        generalize decide (i + 1 < len ∧ (rnAt L (i + 1)).u = false) = b1 at *
        go_upto_if 45 with fail
        go_cut [5] from 12 (fun a wd => a = .int .i64 (e : Nat) ∧ wd = wc)
        case first =>
          cases b1
          · have h := HF1.out.2 rfl
            have H := hid h
            clear h
            go_wp2_with fail
            go_meet
            exact ⟨by rw [← H.out]; go_num, rfl⟩
          · have h := HF1.out.1 rfl
            have H := hid h
            clear h
            go_wp2_with fail
            go_meet
            exact ⟨by rw [← H.out]; go_num, rfl⟩
        case rest =>
          obtain ⟨rfl, rfl⟩ := hcut
          clear HF1
          obtain ⟨s0, _, _⟩ := HC.out f (by omega)
          go_wp2_with fail
          have HO0 : Hid (One (wc.alloc (.cells #[.int .i64 (rnAt L f).s, .int .i64 0, .bool false] 98)) wc.heap.size ⟨(rnAt L f).s, 0, false⟩) := heap_alloc_new _ _
          have hfs : Hid (∀ k, k ≤ e - f → sumTo (L.drop f) k ≤ 1024) := fun k hk => by
            have := HFew.out (f + k) (by rw [HLen.out]; omega) f (by omega)
            rwa [Nat.add_sub_cancel_left] at this
          generalize hs0 : (rnAt L f).s = s at *
          have HS0 := hid hs0
          clear hs0 s0
          have hfe : f < e := by omega
          go_loopw [65] (fun q wr => ∃ k : Nat, q = .int .i64 k ∧ k ≤ e - f ∧ One wr wc.heap.size ⟨s, sumTo (L.drop f) k, false⟩ ∧ Ext [] wc wr) (fun q _ => ((e - f : Nat) - (intOf q)).toNat)
          case atStart => exact ⟨0, rfl, Nat.zero_le _, HO0.out, Ext.alloc _ _ _⟩
          case round =>
            clear HO0
            obtain ⟨k, rfl, hk, hO, hE⟩ := hrel
            by_cases hlt : k < e - f
            · obtain ⟨q0, q1, q2⟩ := HC.out (f + k) (by omega)
              rw [show (f + k) * 3 = f * 3 + k * 3 by omega] at q0 q1 q2
              replace q0 := hE.cell q0 (by simp)
              replace q1 := hE.cell q1 (by simp)
              replace q2 := hE.cell q2 (by simp)
              have o1 : wr.cell? ⟨wc.heap.size, 1, none⟩ = some (.int .i64 (sumTo (L.drop f) k)) := by rw [cell_of_row _ _ _ _ _ _ hO]; rfl
              have of := frozen_of_row _ _ 1 _ _ hO
              have hol := lt_of_heap hO
              have HSn : Hid (sumTo (L.drop f) (k + 1) = sumTo (L.drop f) k + (rnAt L (f + k)).n) := by
                show sumTo (L.drop f) k + (rnAt (L.drop f) k).n = _
                rw [rnAt_drop]
              have hb1 := hfs.out (k + 1) (by omega)
              rw [HSn.out] at hb1
              have HO := hid hO
              have HE := hid hE
              clear hO hE
              generalize sumTo (L.drop f) k = S at *
              generalize rnAt L (f + k) = y at *
              go_wp2_with fail
              go_roundw
              case rel =>
                refine ⟨k + 1, by go_num, by omega, ?_, ?_⟩
                · have h1 := heap_setCell_same wr wc.heap.size 1 _ _ (.int .i64 ((S : Int) + y.n)) HO.out
                  have h2 := (Ext.alloc [] (wr.setCell ⟨wc.heap.size, 1, none⟩ (.int .i64 ((S : Int) + y.n))) (.cells #[.int .i64 y.s, .int .i64 y.n, .bool y.u] 98)).keep h1 (by simp)
                  unfold One
                  rw [h2, HSn.out]
                  simp
                · exact (HE.out.on (Ext.setCell [wc.heap.size] _ _ _ (by simp)) (by simp)).trans (Ext.alloc [] _ _)
              case measure => simp [intOf]; omega
            · obtain rfl : k = e - f := by omega
              have HO := hid hO
              have HE := hid hE
              clear hO hE
              have hcw := HE.out.cell hc (by simp)
              have hpw : p < wr.heap.size := by have := HE.out.size; omega
              have o0 : wr.cell? ⟨wc.heap.size, 0, none⟩ = some (.int .i64 s) := by rw [cell_of_row _ _ _ _ _ _ HO.out]; rfl
              have o1 : wr.cell? ⟨wc.heap.size, 1, none⟩ = some (.int .i64 (sumTo (L.drop f) (e - f))) := by rw [cell_of_row _ _ _ _ _ _ HO.out]; rfl
              have o2 : wr.cell? ⟨wc.heap.size, 2, none⟩ = some (.bool false) := by rw [cell_of_row _ _ _ _ _ _ HO.out]; rfl
              have hol := lt_of_heap HO.out
              have hLw : Hid (L.take f ++ [⟨s, sumTo (L.drop f) (e - f), false⟩] ++ L.drop e = L') := HRL.out.symm
              generalize sumTo (L.drop f) (e - f) = S at *
              have hE2 : Ext [] wr (wr.alloc (.cells #[.int .i64 s, .int .i64 S, .bool false] 98)).drew := (Ext.alloc [] _ _).trans (Ext.drew [] _)
              have hy : One (wr.alloc (.cells #[.int .i64 s, .int .i64 S, .bool false] 98)).drew wr.heap.size ⟨s, S, false⟩ := heap_alloc_new wr _
              have hRw := (HR.out.keep0 HE.out).keep0 hE2
              have K := replace_any (.slice (some ⟨g, 0, none⟩) len c) f e L _ hRw.row hfe (by rw [HLen.out]; exact heu) (by rw [HLen.out]; omega) wr.heap.size _ hy
              have HB : Hid (∀ w2, Ext [g] (wr.alloc (.cells #[.int .i64 s, .int .i64 S, .bool false] 98)).drew w2 → Bx T ox cs w2 p (.slice (some ⟨g, 0, none⟩) len c) ∧ Ext [p, g] wc w2) := fun w2 h =>
                ⟨hRw.box.keep h (by simpa using hpg), (((HE.out.trans hE2).mono (by simp)).trans h).mono (by simp)⟩
              clear hy hE2 hRw
              go_wp2_with fail
              go_region_law (go_simp; go_wp2_with (first | (go_at_call 132; refine K.mono ?_; clear K; rintro e w2 ⟨v', rfl, hL2, hON, hE3⟩; obtain ⟨hb2, hX2⟩ := HB.out w2 hE3; have k0 : w2.cell? ⟨p, ox + 1, none⟩ = some (.slice (some ⟨g, 0, none⟩) len c) := hcell3 hb2; have kf := frozen_of_row w2 p (ox + 1) _ _ hb2.at_; obtain ⟨a', c', hv', _⟩ := hL2.slice; rw [hLw.out] at hL2 hv'; subst hv')))
              all_goals
                go_end0
                exact tk_fin hb2 hL2 hON (by have := HE.out.size; simp; omega) hX2

end Go.Proofs.YtjbbomokgpoilaaGreatDoor

/-
  Alloc and Free, as calls; no statement is proved here.
-/
namespace Go.Proofs.YtjbbomokgpoilaaGreatDoor
open Go.RowKit

/-- How pages have turned, and what was answered. -/
def AlPost (T : TypeId) (ox : Nat) (cs : Array Value) (w : World) (p : Nat) (v : Value) (L' : List Rn) (r : Value) (e : Ending) (w' : World) : Prop :=
  ∃ v', e = .returned r ∧ Rs T ox cs w' p v' L' ∧ OldNew w v v' ∧ Ext (p :: v.ownBlock.toList) w w'

theorem al_keep {T : TypeId} {ox : Nat} {cs : Array Value} {w w' : World} {p : Nat} {v : Value} {L : List Rn} (hR : Rs T ox cs w p v L) (hE : Ext [] w w') (r : Value) : AlPost T ox cs w p v L r (.returned r) w' :=
  ⟨v, rfl, hR.keep0 hE, .inl rfl, hE.mono (by simp)⟩

theorem al_of_tk {T : TypeId} {ox : Nat} {cs : Array Value} {w w1 w2 : World} {p : Nat} {v : Value} {L' : List Rn} {e : Ending} {r : Value} (hE : Ext [] w w1) (h : TkPost T ox cs w1 p v L' e w2) : AlPost T ox cs w p v L' r (.returned r) w2 := by
  obtain ⟨v', _, hR, hON, hX⟩ := h
  exact ⟨v', rfl, hR, hON.imp id (fun h g hg => by have := h g hg; have := hE.size; omega), (hE.mono (by simp)).trans hX⟩

theorem alloc_arg {ox : Nat} (p : Nat) (n : Int) (w : World) (h : n < 1) : Calls Tryz.prog 124 #[.pointer (some ⟨p, ox + 1, none⟩), .int .i64 n] w fun e w' => e = .returned (.tuple #[.int .i64 0, .int .i64 2]) ∧ w' = w := by
  go_enter Tryz.func124, Tryz.ntmps124
  go_wp2
  go_ret2
  exact ⟨rfl, rfl⟩

set_option maxRecDepth 100000 in
set_option maxHeartbeats 4000000 in
theorem alloc_full {T : TypeId} {ox : Nat} {cs : Array Value} (p : Nat) (n : Int) (v : Value) (L : List Rn) (w : World) (hR : Rs T ox cs w p v L) (h1 : 1 ≤ n) (hno : ∀ j, j < L.length → (rnAt L j).u = true ∨ ((rnAt L j).n : Int) < n) (hlen : L.length ≤ 10000) :
    Calls Tryz.prog 124 #[.pointer (some ⟨p, ox + 1, none⟩), .int .i64 n] w (AlPost T ox cs w p v L (.tuple #[.int .i64 0, .int .i64 7])) := by
  obtain ⟨a, c, rfl, hnc⟩ := hR.row.slice
  have hc := hR.cell
  have HR := hid hR
  have HN := hid hno
  clear hR hno
  have h1' : ¬ n < 1 := by omega
  go_enter Tryz.func124, Tryz.ntmps124
  go_wp2_with fail
  go_loopw [19] (fun q wr => ∃ k : Nat, q = .int .i64 k ∧ k ≤ L.length ∧ Ext [] w wr) (fun q _ => (L.length - (intOf q)).toNat)
  case atStart => exact ⟨0, rfl, Nat.zero_le _, Ext.refl _ _⟩
  case round =>
    obtain ⟨k, rfl, hk, hE⟩ := hrel
    have HE := hid hE
    clear hE
    by_cases hlt : k < L.length
    · obtain ⟨g, c', hv, _, _, hg, hcs⟩ := (HR.out.row.keep0 HE.out).at_ (by omega)
      simp only [Value.slice.injEq, true_and] at hv
      obtain ⟨rfl, rfl⟩ := hv
      obtain ⟨c0, c1, c2⟩ := hcs k hlt
      have hn := HN.out k hlt
      clear hcs
      generalize rnAt L k = x at *
      cases hu : x.u
      · have h2 : (x.n : Int) < n := by
          rcases hn with h | h
          · rw [hu] at h; cases h
          · exact h
        have h3 : ¬ (n ≤ (x.n : Int)) := by omega
        rw [hu] at c2
        clear hu hn
        go_wp2_with fail
        go_roundw
        case rel => exact ⟨k + 1, by go_num, by omega, HE.out.trans (Ext.alloc [] _ _)⟩
        case measure => simp [intOf]; omega
      · rw [hu] at c2
        clear hu hn
        go_wp2_with fail
        go_roundw
        case rel => exact ⟨k + 1, by go_num, by omega, HE.out.trans (Ext.alloc [] _ _)⟩
        case measure => simp [intOf]; omega
    · go_wp2_with fail
      go_ret2
      exact al_keep HR.out HE.out _

set_option maxRecDepth 100000 in
set_option maxHeartbeats 4000000 in
theorem alloc_hit {T : TypeId} {ox : Nat} {cs : Array Value} (p i : Nat) (n : Nat) (v : Value) (L : List Rn) (w : World) (hR : Rs T ox cs w p v L) (h1 : 1 ≤ n) (hi : i < L.length) (hu : (rnAt L i).u = false) (hn : n ≤ (rnAt L i).n) (hb : (rnAt L i).s + (rnAt L i).n ≤ 1024)
    (hno : ∀ j, j < i → (rnAt L j).u = true ∨ (rnAt L j).n < n) (hlen : L.length ≤ 10000) :
    Calls Tryz.prog 124 #[.pointer (some ⟨p, ox + 1, none⟩), .int .i64 n] w (AlPost T ox cs w p v (takeL L i n) (.tuple #[.int .i64 (rnAt L i).s, .int .i64 0])) := by
  obtain ⟨a, c, rfl, hnc⟩ := hR.row.slice
  have hc := hR.cell
  have HR := hid hR
  have HN := hid hno
  have HU := hid hu
  clear hR hno hu
  have h1' : ¬ (n : Int) < 1 := by omega
  have HK : Hid (∀ W, Ext [] w W → Calls Tryz.prog 131 #[.pointer (some ⟨p, ox + 1, none⟩), .int .i64 i, .int .i64 n] W (TkPost T ox cs W p (.slice a L.length c) (takeL L i n))) := fun W hW => take_any p i n _ L W (HR.out.keep0 hW) hi hb hlen
  go_enter Tryz.func124, Tryz.ntmps124
  go_wp2_with fail
  go_loopw [19] (fun q wr => ∃ k : Nat, q = .int .i64 k ∧ k ≤ i ∧ Ext [] w wr) (fun q _ => (L.length - (intOf q)).toNat)
  case atStart => exact ⟨0, rfl, Nat.zero_le _, Ext.refl _ _⟩
  case round =>
    obtain ⟨k, rfl, hk, hE⟩ := hrel
    have HE := hid hE
    clear hE
    obtain ⟨g, c', hv, _, _, hg, hcs⟩ := (HR.out.row.keep0 HE.out).at_ (by omega)
    simp only [Value.slice.injEq, true_and] at hv
    obtain ⟨rfl, rfl⟩ := hv
    obtain ⟨c0, c1, c2⟩ := hcs k (by omega)
    clear hcs
    by_cases hlt : k < i
    · have hn2 := HN.out k hlt
      generalize rnAt L k = x at *
      cases hu : x.u
      · have h2 : x.n < n := by
          rcases hn2 with h | h
          · rw [hu] at h; cases h
          · exact h
        have h3 : ¬ ((n : Int) ≤ (x.n : Int)) := by omega
        rw [hu] at c2
        clear hu hn2
        go_wp2_with fail
        go_roundw
        case rel => exact ⟨k + 1, by go_num, by omega, HE.out.trans (Ext.alloc [] _ _)⟩
        case measure => simp [intOf]; omega
      · rw [hu] at c2
        clear hu hn2
        go_wp2_with fail
        go_roundw
        case rel => exact ⟨k + 1, by go_num, by omega, HE.out.trans (Ext.alloc [] _ _)⟩
        case measure => simp [intOf]; omega
    · obtain rfl : k = i := by omega
      have hu := HU.out
      rw [hu] at c2
      clear hu
      have h3 : (n : Int) ≤ ((rnAt L k).n : Int) := by omega
      have HE2 := hid (HE.out.trans (Ext.alloc [] wr (.cells #[.int .i64 (rnAt L k).s, .int .i64 (rnAt L k).n, .bool false] 98)))
      have HO : Hid (One (wr.alloc (.cells #[.int .i64 (rnAt L k).s, .int .i64 (rnAt L k).n, .bool false] 98)) wr.heap.size ⟨(rnAt L k).s, (rnAt L k).n, false⟩) := heap_alloc_new wr _
      have K := HK.out _ HE2.out
      have hls := HR.out.lt
      have hgs : ∀ q, (Value.slice (some ⟨g, 0, none⟩) L.length c).ownBlock = some q → q < w.heap.size := HR.out.row.lt
      have hws := HE.out.size
      generalize takeL L k n = L' at *
      generalize rnAt L k = x at *
      go_wp2_with fail
      refine K.mono ?_
      clear K
      rintro e w2 h
      have hX := h.choose_spec.2.2.2
      have hE := h.choose_spec.1
      subst hE
      have ho2 := HO.out.keep hX (by
        simp only [List.mem_cons, Option.mem_toList, not_or]
        refine ⟨by omega, fun h => ?_⟩
        have := hgs _ h
        omega)
      have d0 : w2.cell? ⟨wr.heap.size, 0, none⟩ = some (.int .i64 x.s) := by rw [cell_of_row _ _ _ _ _ _ ho2]; rfl
      have H := hid h
      clear hX ho2 h
      go_wp2_with fail
      go_ret2
      exact al_of_tk HE2.out H.out

set_option maxRecDepth 100000 in
set_option maxHeartbeats 4000000 in
theorem free_none {T : TypeId} {ox : Nat} {cs : Array Value} (p : Nat) (n : Int) (v : Value) (L : List Rn) (w : World) (hR : Rs T ox cs w p v L) (hno : ∀ j, j < L.length → (rnAt L j).u = false ∨ ((rnAt L j).s : Int) ≠ n) (hlen : L.length ≤ 10000) :
    Calls Tryz.prog 118 #[.pointer (some ⟨p, ox + 1, none⟩), .int .i64 n] w (AlPost T ox cs w p v L (.tuple #[.int .i64 0, .int .i64 4])) := by
  obtain ⟨a, c, rfl, hnc⟩ := hR.row.slice
  have hc := hR.cell
  have HR := hid hR
  have HN := hid hno
  clear hR hno
  go_enter Tryz.func118, Tryz.ntmps118
  go_wp2_with fail
  go_loopw [15] (fun q wr => ∃ k : Nat, q = .int .i64 k ∧ k ≤ L.length ∧ Ext [] w wr) (fun q _ => (L.length - (intOf q)).toNat)
  case atStart => exact ⟨0, rfl, Nat.zero_le _, Ext.refl _ _⟩
  case round =>
    obtain ⟨k, rfl, hk, hE⟩ := hrel
    have HE := hid hE
    clear hE
    by_cases hlt : k < L.length
    · obtain ⟨g, c', hv, _, _, hg, hcs⟩ := (HR.out.row.keep0 HE.out).at_ (by omega)
      simp only [Value.slice.injEq, true_and] at hv
      obtain ⟨rfl, rfl⟩ := hv
      obtain ⟨c0, c1, c2⟩ := hcs k hlt
      have hn := HN.out k hlt
      clear hcs
      generalize rnAt L k = x at *
      cases hu : x.u
      rotate_left
      · have h2 : (x.s : Int) ≠ n := by
          rcases hn with h | h
          · rw [hu] at h; cases h
          · exact h
        have h3 : ((x.s : Int) == n) = false := by simp [h2]
        rw [hu] at c2
        clear hu hn h2
        go_wp2_with fail
        go_roundw
        case rel => exact ⟨k + 1, by go_num, by omega, HE.out.trans (Ext.alloc [] _ _)⟩
        case measure => simp [intOf]; omega
      · rw [hu] at c2
        clear hu hn
        go_wp2_with fail
        go_roundw
        case rel => exact ⟨k + 1, by go_num, by omega, HE.out.trans (Ext.alloc [] _ _)⟩
        case measure => simp [intOf]; omega
    · go_wp2_with fail
      go_ret2
      exact al_keep HR.out HE.out _

set_option maxRecDepth 100000 in
set_option maxHeartbeats 4000000 in
theorem free_hit {T : TypeId} {ox : Nat} {cs : Array Value} (p i : Nat) (n : Int) (v : Value) (L : List Rn) (w : World) (hR : Rs T ox cs w p v L) (hi : i < L.length) (hu : (rnAt L i).u = true) (hn : ((rnAt L i).s : Int) = n) (hf : Few L)
    (hno : ∀ j, j < i → (rnAt L j).u = false ∨ ((rnAt L j).s : Int) ≠ n) (hlen : L.length ≤ 10000) :
    Calls Tryz.prog 118 #[.pointer (some ⟨p, ox + 1, none⟩), .int .i64 n] w (AlPost T ox cs w p v (relL L i) (.tuple #[.int .i64 (rnAt L i).n, .int .i64 0])) := by
  obtain ⟨a, c, rfl, hnc⟩ := hR.row.slice
  have hc := hR.cell
  have HR := hid hR
  have HN := hid hno
  have HU := hid hu
  have HS := hid hn
  clear hR hno hu hn
  have HK : Hid (∀ W, Ext [] w W → Calls Tryz.prog 128 #[.pointer (some ⟨p, ox + 1, none⟩), .int .i64 i] W (TkPost T ox cs W p (.slice a L.length c) (relL L i))) := fun W hW => release_any p i _ L W (HR.out.keep0 hW) hi hf hlen
  go_enter Tryz.func118, Tryz.ntmps118
  go_wp2_with fail
  go_loopw [15] (fun q wr => ∃ k : Nat, q = .int .i64 k ∧ k ≤ i ∧ Ext [] w wr) (fun q _ => (L.length - (intOf q)).toNat)
  case atStart => exact ⟨0, rfl, Nat.zero_le _, Ext.refl _ _⟩
  case round =>
    obtain ⟨k, rfl, hk, hE⟩ := hrel
    have HE := hid hE
    clear hE
    obtain ⟨g, c', hv, _, _, hg, hcs⟩ := (HR.out.row.keep0 HE.out).at_ (by omega)
    simp only [Value.slice.injEq, true_and] at hv
    obtain ⟨rfl, rfl⟩ := hv
    obtain ⟨c0, c1, c2⟩ := hcs k (by omega)
    clear hcs
    by_cases hlt : k < i
    · have hn2 := HN.out k hlt
      generalize rnAt L k = x at *
      cases hu : x.u
      rotate_left
      · have h2 : (x.s : Int) ≠ n := by
          rcases hn2 with h | h
          · rw [hu] at h; cases h
          · exact h
        have h3 : ((x.s : Int) == n) = false := by simp [h2]
        rw [hu] at c2
        clear hu hn2 h2
        go_wp2_with fail
        go_roundw
        case rel => exact ⟨k + 1, by go_num, by omega, HE.out.trans (Ext.alloc [] _ _)⟩
        case measure => simp [intOf]; omega
      · rw [hu] at c2
        clear hu hn2
        go_wp2_with fail
        go_roundw
        case rel => exact ⟨k + 1, by go_num, by omega, HE.out.trans (Ext.alloc [] _ _)⟩
        case measure => simp [intOf]; omega
    · obtain rfl : k = i := by omega
      have hu := HU.out
      rw [hu] at c2
      clear hu
      have h3 : (((rnAt L k).s : Int) == n) = true := by simp [HS.out]
      have HE2 := hid (HE.out.trans (Ext.alloc [] wr (.cells #[.int .i64 (rnAt L k).s, .int .i64 (rnAt L k).n, .bool true] 98)))
      have HO : Hid (One (wr.alloc (.cells #[.int .i64 (rnAt L k).s, .int .i64 (rnAt L k).n, .bool true] 98)) wr.heap.size ⟨(rnAt L k).s, (rnAt L k).n, true⟩) := heap_alloc_new wr _
      have K := HK.out _ HE2.out
      have hls := HR.out.lt
      have hgs : ∀ q, (Value.slice (some ⟨g, 0, none⟩) L.length c).ownBlock = some q → q < w.heap.size := HR.out.row.lt
      have hws := HE.out.size
      generalize relL L k = L' at *
      generalize rnAt L k = x at *
      go_wp2_with fail
      refine K.mono ?_
      clear K
      rintro e w2 h
      have hX := h.choose_spec.2.2.2
      have hE := h.choose_spec.1
      subst hE
      have ho2 := HO.out.keep hX (by
        simp only [List.mem_cons, Option.mem_toList, not_or]
        refine ⟨by omega, fun h => ?_⟩
        have := hgs _ h
        omega)
      have d0 : w2.cell? ⟨wr.heap.size, 1, none⟩ = some (.int .i64 x.n) := by rw [cell_of_row _ _ _ _ _ _ ho2]; rfl
      have H := hid h
      clear hX ho2 h
      go_wp2_with fail
      go_ret2
      exact al_of_tk HE2.out H.out


end Go.Proofs.YtjbbomokgpoilaaGreatDoor

/-
  Plain facts on lists of runs that tile their pages; no statement is proved here.
-/
namespace Go.Proofs.YtjbbomokgpoilaaGreatDoor

/-- Runs side by side from page a on, no two free ones beside each other; pf: a free one stands ahead. -/
def Tl (pf : Bool) (a : Nat) : List Rn → Prop
  | [] => True
  | r :: L => r.s = a ∧ 1 ≤ r.n ∧ (pf = true → r.u = true) ∧ Tl (!r.u) (a + r.n) L
/-- Is the last one free? -/
def lf (pf : Bool) : List Rn → Bool
  | [] => pf
  | r :: L => lf (!r.u) L
/-- Where they end. -/
def endAt (a : Nat) : List Rn → Nat
  | [] => a
  | r :: L => endAt (a + r.n) L

theorem Tl_append {pf : Bool} {a : Nat} {A B : List Rn} : Tl pf a (A ++ B) ↔ Tl pf a A ∧ Tl (lf pf A) (endAt a A) B := by
  induction A generalizing pf a with
  | nil => simp [Tl, lf, endAt]
  | cons r A ih => simp only [List.cons_append, Tl, lf, endAt, ih]; constructor <;> (intro h; simp_all)
theorem endAt_append {a : Nat} {A B : List Rn} : endAt a (A ++ B) = endAt (endAt a A) B := by
  induction A generalizing a with
  | nil => rfl
  | cons r A ih => simp [endAt, ih]
theorem lf_append {pf : Bool} {A B : List Rn} : lf pf (A ++ B) = lf (lf pf A) B := by
  induction A generalizing pf with
  | nil => rfl
  | cons r A ih => simp [lf, ih]
theorem Tl_weak {a : Nat} {L : List Rn} (pf : Bool) (h : Tl true a L) : Tl pf a L := by
  cases L with
  | nil => trivial
  | cons r L => exact ⟨h.1, h.2.1, fun _ => h.2.2.1 rfl, h.2.2.2⟩
theorem Tl_strong {a : Nat} {L : List Rn} {pf : Bool} (h : Tl pf a L) (h0 : ∀ r, L.head? = some r → r.u = true) : Tl true a L := by
  cases L with
  | nil => trivial
  | cons r L => exact ⟨h.1, h.2.1, fun _ => h0 r rfl, h.2.2.2⟩
theorem le_endAt (a : Nat) (L : List Rn) : a ≤ endAt a L := by
  induction L generalizing a with
  | nil => exact Nat.le_refl _
  | cons r L ih => have := ih (a + r.n); simp only [endAt]; omega
theorem endAt_add (a b : Nat) (L : List Rn) : endAt (a + b) L = a + endAt b L := by
  induction L generalizing b with
  | nil => rfl
  | cons r L ih => simp only [endAt]; rw [Nat.add_assoc, ih]
theorem len_endAt {pf : Bool} {a : Nat} {L : List Rn} (h : Tl pf a L) : a + L.length ≤ endAt a L := by
  induction L generalizing a pf with
  | nil => exact Nat.le_refl _
  | cons r L ih => have := ih h.2.2.2; have := h.2.1; simp only [endAt, List.length_cons]; omega
theorem mem_endAt {pf : Bool} {a : Nat} {L : List Rn} (h : Tl pf a L) : ∀ r ∈ L, a ≤ r.s ∧ 1 ≤ r.n ∧ r.s + r.n ≤ endAt a L := by
  induction L generalizing a pf with
  | nil => simp
  | cons r L ih =>
    intro x hx
    rcases List.mem_cons.1 hx with rfl | hx
    · have := le_endAt (a + x.n) L
      exact ⟨by have := h.1; omega, h.2.1, by have := h.1; simp only [endAt]; omega⟩
    · have := ih h.2.2.2 x hx
      simp only [endAt]
      omega

theorem split_at (L : List Rn) (i : Nat) (h : i < L.length) : L = L.take i ++ (rnAt L i :: L.drop (i + 1)) := by
  have h1 : L.drop i = rnAt L i :: L.drop (i + 1) := by
    rw [List.drop_eq_getElem_cons h]
    simp [rnAt, List.getD, h]
  rw [← h1, List.take_append_drop]

/-- What holds of pages. -/
structure Inv (P : Nat) (L : List Rn) : Prop where
  tl : Tl false 0 L
  end_ : endAt 0 L = P
  le : P ≤ 1024

theorem Inv.len {P : Nat} {L : List Rn} (h : Inv P L) : L.length ≤ P := by
  have := len_endAt h.tl
  rw [h.end_] at this
  omega
theorem Inv.mem {P : Nat} {L : List Rn} (h : Inv P L) : ∀ r ∈ L, 1 ≤ r.n ∧ r.s + r.n ≤ P := by
  intro r hr
  have := mem_endAt h.tl r hr
  rw [h.end_] at this
  omega

theorem sumTo_endAt (L : List Rn) : ∀ k a, k ≤ L.length → a + sumTo L k = endAt a (L.take k)
  | 0, a, _ => by simp [sumTo, endAt]
  | k + 1, a, h => by
    have ih := sumTo_endAt L k a (by omega)
    rw [sumTo, List.take_add_one, rnAt_get (by omega), endAt_append, ← ih]
    simp [endAt]; omega
theorem Inv.few {P : Nat} {L : List Rn} (h : Inv P L) : Few L := by
  intro k hk f hf
  have h1 := sumTo_endAt (L.drop f) (k - f) 0 (by simp; omega)
  have h2 : endAt 0 L = endAt (endAt (endAt 0 (L.take f)) ((L.drop f).take (k - f))) ((L.drop f).drop (k - f)) := by
    rw [← endAt_append, ← endAt_append, List.take_append_drop, List.take_append_drop]
  have h3 := le_endAt (endAt (endAt 0 (L.take f)) ((L.drop f).take (k - f))) ((L.drop f).drop (k - f))
  have h4 := endAt_add (endAt 0 (L.take f)) 0 ((L.drop f).take (k - f))
  rw [Nat.add_zero] at h4
  have := h.end_
  have := h.le
  omega

/-- The runs of new pages. -/
def newR (k : Nat) : List Rn := if k = 0 then [] else [⟨0, k, false⟩]

theorem inv_new (k : Nat) (h : k ≤ 1024) : Inv k (newR k) := by
  unfold newR
  split
  · subst k; exact ⟨trivial, rfl, h⟩
  · exact ⟨⟨rfl, by show 1 ≤ k; omega, by simp, trivial⟩, by simp [endAt], h⟩

/-! ### taking -/

theorem rnAt_eq {L : List Rn} {i : Nat} {A B : List Rn} {x : Rn} (h : L = A ++ (x :: B)) (hi : A.length = i) : rnAt L i = x := by
  subst h hi
  simp [rnAt, List.getD]

theorem takeL_eq (A B : List Rn) (x : Rn) (n : Nat) : takeL (A ++ (x :: B)) A.length n = A ++ (⟨x.s, n, true⟩ :: ((if n < x.n then [⟨x.s + n, x.n - n, false⟩] else []) ++ B)) := by
  have hx : rnAt (A ++ (x :: B)) A.length = x := rnAt_eq rfl rfl
  unfold takeL
  rw [hx, List.take_left, show A ++ x :: B = (A ++ [x]) ++ B by simp, List.drop_left' (by simp)]
  simp

theorem inv_take {P : Nat} {A B : List Rn} {x : Rn} {n : Nat} (h : Inv P (A ++ (x :: B))) (hu : x.u = false) (h1 : 1 ≤ n) (hn : n ≤ x.n) : Inv P (takeL (A ++ (x :: B)) A.length n) := by
  obtain ⟨ht, he, hl⟩ := h
  rw [takeL_eq]
  rw [Tl_append] at ht
  obtain ⟨hA, hx, hxn, _, hB⟩ := ht
  rw [hu] at hB
  refine ⟨?_, ?_, hl⟩
  · rw [Tl_append]
    refine ⟨hA, hx, h1, fun _ => rfl, ?_⟩
    simp only [Bool.not_true]
    split
    · refine ⟨by simp only; omega, by simp only; omega, by simp, ?_⟩
      simp only [Bool.not_false]
      rw [show endAt 0 A + n + (x.n - n) = endAt 0 A + x.n by omega]
      exact hB
    · rw [List.nil_append, show n = x.n by omega]
      exact Tl_weak _ hB
  · rw [endAt_append] at he ⊢
    simp only [endAt] at he ⊢
    split
    · simp only [List.singleton_append, endAt]
      rw [show endAt 0 A + n + (x.n - n) = endAt 0 A + x.n by omega]
      exact he
    · rw [List.nil_append, show n = x.n by omega]
      exact he

/-! ### giving back -/

theorem lf_take (pf : Bool) (L : List Rn) (k : Nat) (h : k < L.length) : lf pf (L.take (k + 1)) = !(rnAt L k).u := by
  rw [List.take_add_one, rnAt_get h, lf_append]; rfl

theorem Tl_at {L : List Rn} (h : Tl false 0 L) {k : Nat} (hk : k < L.length) : (rnAt L k).s = endAt 0 (L.take k) ∧ 1 ≤ (rnAt L k).n ∧ (lf false (L.take k) = true → (rnAt L k).u = true) ∧ Tl (!(rnAt L k).u) (endAt 0 (L.take k) + (rnAt L k).n) (L.drop (k + 1)) := by
  have h2 := h
  rw [split_at L k hk, Tl_append] at h2
  exact h2.2

theorem inv_rel {P : Nat} {L : List Rn} (h : Inv P L) {i : Nat} (hi : i < L.length) : Inv P (relL L i) := by
  obtain ⟨ht, he, hl⟩ := h
  have hf := relF_le L i
  have hg := relE_gt L i
  have hE := relE_le L i hi
  have hs := sumTo_endAt (L.drop (relF L i)) (relE L i - relF L i) (endAt 0 (L.take (relF L i))) (by simp; omega)
  have hS : 1 ≤ sumTo (L.drop (relF L i)) (relE L i - relF L i) := by
    obtain ⟨d, hd⟩ : ∃ d, relE L i - relF L i = d + 1 := ⟨relE L i - relF L i - 1, by omega⟩
    rw [hd]
    have : ∀ d, 1 ≤ sumTo (L.drop (relF L i)) (d + 1) := by
      intro d
      induction d with
      | zero =>
        have := (Tl_at ht (k := relF L i) (by omega)).2.1
        rw [sumTo, sumTo, rnAt_drop, Nat.add_zero]; omega
      | succ d ih => rw [sumTo]; omega
    exact this d
  have hM : endAt (endAt 0 (L.take (relF L i))) ((L.drop (relF L i)).take (relE L i - relF L i)) = endAt 0 (L.take (relE L i)) := by
    rw [← endAt_append]
    congr 1
    conv => rhs; rw [show relE L i = relF L i + (relE L i - relF L i) by omega, List.take_add]
  have hfl : lf false (L.take (relF L i)) = false := by
    by_cases hc : 0 < i ∧ (rnAt L (i - 1)).u = false
    · have e : relF L i = i - 1 := by unfold relF; rw [if_pos hc]
      rw [e]
      have := (Tl_at ht (k := i - 1) (by omega)).2.2.1
      cases hq : lf false (L.take (i - 1))
      · rfl
      · have := this hq; rw [hc.2] at this; cases this
    · have e : relF L i = i := by unfold relF; rw [if_neg hc]
      rw [e]
      by_cases h0 : i = 0
      · subst h0; rfl
      · obtain ⟨k, rfl⟩ : ∃ k, i = k + 1 := ⟨i - 1, by omega⟩
        rw [lf_take false L k (by omega)]
        cases hu : (rnAt L k).u
        · exact absurd ⟨by omega, by simpa using hu⟩ hc
        · rfl
  have hB : Tl true (endAt 0 (L.take (relE L i))) (L.drop (relE L i)) := by
    have h2 := ht
    rw [← List.take_append_drop (relE L i) L, Tl_append] at h2
    have h3 := h2.2
    by_cases hc : i + 1 < L.length ∧ (rnAt L (i + 1)).u = false
    · have e : relE L i = i + 1 + 1 := by unfold relE; rw [if_pos hc]
      rw [e, lf_take false L (i + 1) hc.1, hc.2] at h3
      rw [e]
      exact h3
    · have e : relE L i = i + 1 := by unfold relE; rw [if_neg hc]
      refine Tl_strong h3 (fun r hr => ?_)
      rw [e] at hr
      by_cases h1 : i + 1 < L.length
      · rw [List.head?_drop, rnAt_get h1] at hr
        cases hr
        cases hu : (rnAt L (i + 1)).u
        · exact absurd ⟨h1, hu⟩ hc
        · rfl
      · rw [List.head?_drop, List.getElem?_eq_none (by omega)] at hr
        cases hr
  have hsE : endAt 0 (L.take (relF L i)) + sumTo (L.drop (relF L i)) (relE L i - relF L i) = endAt 0 (L.take (relE L i)) := hs.trans hM
  refine ⟨?_, ?_, hl⟩
  · unfold relL relJ
    rw [Tl_append, Tl_append, lf_append, endAt_append]
    have h2 := ht
    rw [← List.take_append_drop (relF L i) L, Tl_append] at h2
    refine ⟨⟨h2.1, (Tl_at ht (k := relF L i) (by omega)).1, hS, by rw [hfl]; simp, trivial⟩, ?_⟩
    simp only [lf, endAt, Bool.not_false]
    rw [hsE]
    exact hB
  · unfold relL relJ
    rw [endAt_append, endAt_append]
    simp only [endAt]
    rw [hsE, ← endAt_append, List.take_append_drop]
    exact he

/-! ### there and back -/

theorem back_take {P : Nat} {A B : List Rn} {x : Rn} {n : Nat} (h : Inv P (A ++ (x :: B))) (hu : x.u = false) (hn : n ≤ x.n) : relL (takeL (A ++ (x :: B)) A.length n) A.length = A ++ (x :: B) := by
  have ht := h.tl
  rw [Tl_append] at ht
  obtain ⟨_, hx, _, hp, hB⟩ := ht
  rw [takeL_eq]
  have hF : ∀ (y : Rn) (C : List Rn), relF (A ++ (y :: C)) A.length = A.length := by
    intro y C
    unfold relF
    rw [if_neg]
    rintro ⟨h0, h1⟩
    obtain ⟨k, hk⟩ : ∃ k, A.length = k + 1 := ⟨A.length - 1, by omega⟩
    have e : rnAt (A ++ (y :: C)) (A.length - 1) = rnAt A k := by
      rw [hk, Nat.add_sub_cancel]
      simp only [rnAt, List.getD]
      rw [List.getElem?_append_left (by omega)]
    rw [e] at h1
    have h2 := lf_take false A k (by omega)
    rw [List.take_of_length_le (by omega), h1] at h2
    have := hp h2
    rw [hu] at this
    cases this
  have hJ : ∀ (y : Rn) (C : List Rn), rnAt (A ++ (y :: C)) A.length = y := fun y C => rnAt_eq rfl rfl
  unfold relL relJ
  rw [hF, hJ, List.take_left, List.drop_left]
  split
  · rename_i hlt
    have e1 : relE (A ++ (⟨x.s, n, true⟩ :: ([⟨x.s + n, x.n - n, false⟩] ++ B))) A.length = A.length + 2 := by
      unfold relE
      rw [if_pos]
      refine ⟨by simp, ?_⟩
      rw [show A ++ (⟨x.s, n, true⟩ :: ([⟨x.s + n, x.n - n, false⟩] ++ B)) = (A ++ [⟨x.s, n, true⟩]) ++ (⟨x.s + n, x.n - n, false⟩ :: B) by simp, rnAt_eq rfl (by simp)]
    rw [e1, show A.length + 2 - A.length = 2 by omega]
    rw [show A ++ (⟨x.s, n, true⟩ :: ([⟨x.s + n, x.n - n, false⟩] ++ B)) = (A ++ [⟨x.s, n, true⟩, ⟨x.s + n, x.n - n, false⟩]) ++ B by simp, List.drop_left' (by simp)]
    simp only [sumTo, rnAt, List.getD]
    simp
    cases x
    simp at hu hlt ⊢
    exact ⟨by omega, hu⟩
  · rename_i hlt
    obtain rfl : n = x.n := by omega
    rw [hu] at hB
    have e1 : relE (A ++ (⟨x.s, x.n, true⟩ :: ([] ++ B))) A.length = A.length + 1 := by
      unfold relE
      rw [if_neg]
      rintro ⟨h1, h2⟩
      cases B with
      | nil => simp at h1
      | cons z B =>
        rw [show A ++ (⟨x.s, x.n, true⟩ :: ([] ++ z :: B)) = (A ++ [⟨x.s, x.n, true⟩]) ++ (z :: B) by simp, rnAt_eq rfl (by simp)] at h2
        have := hB.2.2.1 rfl
        rw [h2] at this
        cases this
    rw [e1, show A.length + 1 - A.length = 1 by omega]
    rw [show A ++ (⟨x.s, x.n, true⟩ :: ([] ++ B)) = (A ++ [⟨x.s, x.n, true⟩]) ++ B by simp, List.drop_left' (by simp)]
    simp only [sumTo, rnAt, List.getD]
    simp
    cases x
    simp at hu ⊢
    exact hu

end Go.Proofs.YtjbbomokgpoilaaGreatDoor
