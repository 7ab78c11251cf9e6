/-
  RhM, RhP, RhG: joined by program; no statement is proved here.
-/
import Derived.Test.YtkfagfdefkaenaaDoorZPJ
import Derived.Test.YtkfagfdefkaenaaDoorZPH
/-
  Two tables in the place of one in the document's directory, in plain words; no statement is proved here.
-/
namespace Go.Proofs.YtkfagfdefkaenaaDoor.Rf
open Go.RowKit Go.Shelf
open Pr (Gp GpI)

theorem wdt_up {dp mx : Nat} {u : Tq} (h : u.d ≤ dp) (hm : dp ≤ mx) : wdt mx u = 2 ^ (mx - dp) * wdt dp u := by
  unfold wdt
  rw [← Nat.pow_add]
  congr 1
  omega
theorem pre_up {dp mx : Nat} (hm : dp ≤ mx) : ∀ L : List Tq, (∀ u ∈ L, u.d ≤ dp) → pre mx L = 2 ^ (mx - dp) * pre dp L
  | [], _ => by simp [pre]
  | u :: L, h => by
    rw [pre, pre, wdt_up (h u (by simp)) hm, pre_up hm L (fun v hv => h v (by simp [hv])), Nat.mul_add]
theorem quot_up {dp mx : Nat} (hm : dp ≤ mx) (L : List Tq) (hL : ∀ u ∈ L, u.d ≤ dp) (u : Tq) (hu : u.d ≤ dp) : pre mx L / wdt mx u = pre dp L / wdt dp u := by
  rw [pre_up hm L hL, wdt_up hu hm, Nat.mul_div_mul_left _ _ (Nat.pow_pos (by omega))]
/-- Two in the place of one. -/
theorem two_at {α : Type} {A B : List α} {x y u : α} {k : Nat} (h : (A ++ x :: y :: B)[k]? = some u) :
    (k < A.length ∧ ∀ C, (A ++ C)[k]? = some u) ∨ (k = A.length ∧ u = x) ∨ (k = A.length + 1 ∧ u = y) ∨ ∃ j, k = A.length + 2 + j ∧ B[j]? = some u ∧ ∀ z, (A ++ z :: B)[A.length + 1 + j]? = some u := by
  by_cases q : k < A.length
  · left
    rw [List.getElem?_append_left q] at h
    exact ⟨q, fun C => by rw [List.getElem?_append_left q]; exact h⟩
  · rw [List.getElem?_append_right (by omega)] at h
    obtain ⟨m, rfl⟩ : ∃ m, k = A.length + m := ⟨k - A.length, by omega⟩
    rw [Nat.add_sub_cancel_left] at h
    match m, h with
    | 0, h => right; left; exact ⟨rfl, by simpa using h.symm⟩
    | 1, h => right; right; left; exact ⟨rfl, by simpa using h.symm⟩
    | j + 2, h =>
      right; right; right
      refine ⟨j, by omega, by simpa using h, fun z => ?_⟩
      rw [List.getElem?_append_right (by omega), show A.length + 1 + j - A.length = j + 1 by omega]
      simpa using h
theorem lea_le {dp : Nat} {L : List Tq} (hD : Dq dp L) (k : Nat) (t : Tq) : lea dp L k t ≤ 64 := by
  have h1 : pre dp (L.take k) ≤ pre dp L := by
    have := pre_app dp (L.take k) (L.drop k)
    rw [List.take_append_drop] at this
    omega
  rw [hD.all] at h1
  exact Nat.le_trans (Nat.div_le_self _ _) (Nat.le_trans h1 (pow64 hD.le))
section
variable {dp mx : Nat} {A B : List Tq} {t t0 t1 : Tq} (hD : Dq dp (A ++ t :: B)) (hm : max dp (t.d + 1) = mx) (h0 : t0.d = t.d + 1) (h1 : t1.d = t.d + 1)
include hD hm h0 h1
theorem spl_w : wdt mx t = 2 * wdt mx t0 ∧ wdt mx t1 = wdt mx t0 ∧ (∀ u ∈ A ++ t :: B, u.d ≤ dp) ∧ dp ≤ mx := by
  refine ⟨?_, by unfold wdt; rw [h0, h1], fun u hu => ?_, by omega⟩
  · unfold wdt
    rw [h0, show mx - t.d = (mx - (t.d + 1)) + 1 from by omega, Nat.pow_succ, Nat.mul_comm]
  · obtain ⟨k, hk⟩ := List.mem_iff_getElem?.1 hu
    exact hD.d_le k u hk
theorem lea_lo {k : Nat} {u : Tq} (hk : k < A.length) (hu : (A ++ t :: B)[k]? = some u) : lea mx (A ++ t0 :: t1 :: B) k u = lea dp (A ++ t :: B) k u := by
  obtain ⟨_, _, w3, w4⟩ := spl_w hD hm h0 h1
  unfold lea
  rw [List.take_append_of_le_length (by omega), List.take_append_of_le_length (by omega)]
  exact quot_up w4 _ (fun v hv => w3 v (List.mem_append_left _ (List.mem_of_mem_take hv))) u (w3 u (List.mem_of_getElem? hu))
theorem spl_pre : pre mx A = lea dp (A ++ t :: B) A.length t * (2 * wdt mx t0) := by
  obtain ⟨w1, w2, w3, w4⟩ := spl_w hD hm h0 h1
  have hok := hD.ok
  rw [ok_app, Ok, Nat.zero_add] at hok
  have ho := hok.2.1
  have hA : ∀ u ∈ A, u.d ≤ dp := fun u hu => w3 u (List.mem_append_left _ hu)
  have hdiv := Nat.div_add_mod (pre dp A) (wdt dp t)
  rw [ho.mul, Nat.add_zero] at hdiv
  have hl : lea dp (A ++ t :: B) A.length t = pre dp A / wdt dp t := by
    unfold lea
    rw [List.take_left' rfl]
  rw [hl, ← w1, pre_up w4 A hA, wdt_up (w3 t (by simp)) w4, Nat.mul_left_comm, Nat.mul_comm (pre dp A / wdt dp t), hdiv]
theorem lea_t0 : lea mx (A ++ t0 :: t1 :: B) A.length t0 = 2 * lea dp (A ++ t :: B) A.length t := by
  have h := spl_pre hD hm h0 h1
  have : lea mx (A ++ t0 :: t1 :: B) A.length t0 = pre mx A / wdt mx t0 := by
    unfold lea
    rw [List.take_left' rfl]
  rw [this, h, ← Nat.mul_assoc, Nat.mul_div_cancel _ (wdt_pos mx t0), Nat.mul_comm]
theorem lea_t1 : lea mx (A ++ t0 :: t1 :: B) (A.length + 1) t1 = 2 * lea dp (A ++ t :: B) A.length t + 1 := by
  obtain ⟨w1, w2, w3, w4⟩ := spl_w hD hm h0 h1
  have h := spl_pre hD hm h0 h1
  have ht : (A ++ t0 :: t1 :: B).take (A.length + 1) = A ++ [t0] := by
    rw [List.take_append, List.take_of_length_le (by omega), Nat.add_sub_cancel_left]
    rfl
  have : lea mx (A ++ t0 :: t1 :: B) (A.length + 1) t1 = (pre mx A + wdt mx t0) / wdt mx t0 := by
    unfold lea
    rw [ht, pre_app, w2]
    rfl
  rw [this, h, ← Nat.mul_assoc, Nat.mul_comm _ 2, Nat.add_div_right _ (wdt_pos mx t0), Nat.mul_div_cancel _ (wdt_pos mx t0)]
theorem lea_hi {j : Nat} {u : Tq} (hu : (A ++ t :: B)[A.length + 1 + j]? = some u) : lea mx (A ++ t0 :: t1 :: B) (A.length + 2 + j) u = lea dp (A ++ t :: B) (A.length + 1 + j) u := by
  obtain ⟨w1, w2, w3, w4⟩ := spl_w hD hm h0 h1
  have e1 : (A ++ t0 :: t1 :: B).take (A.length + 2 + j) = A ++ t0 :: t1 :: B.take j := by
    rw [List.take_append, List.take_of_length_le (by omega), show A.length + 2 + j - A.length = j + 2 by omega]
    rfl
  have e2 : (A ++ t :: B).take (A.length + 1 + j) = A ++ t :: B.take j := by
    rw [List.take_append, List.take_of_length_le (by omega), show A.length + 1 + j - A.length = j + 1 by omega]
    rfl
  have hle := w3 u (List.mem_of_getElem? hu)
  unfold lea
  rw [e1, e2, ← quot_up w4 (A ++ t :: B.take j) (fun v hv => w3 v (by
    rcases List.mem_append.1 hv with q | q
    · exact List.mem_append_left _ q
    · rcases List.mem_cons.1 q with q | q
      · simp [q]
      · exact List.mem_append_right _ (List.mem_cons_of_mem _ (List.mem_of_mem_take q)))) u hle]
  congr 1
  rw [pre_app, pre_app, pre, pre, pre, w1, w2]
  omega
end
/-- The pointers to the tables. -/
def ptl (R : List Rc) : List Value := R.map (fun r => .pointer (some ⟨r.pt, 0, none⟩))
theorem rd_vs {w : World} {pd qd cd dp : Nat} {L : List Tq} {R : List Rc} (h : Rd w pd qd cd dp L R) (k m : Nat) : Vs w (some ⟨qd, k, none⟩) (((ptl R).drop k).take m) := by
  right
  refine ⟨qd, k, rfl, fun j hj => ?_⟩
  obtain ⟨cs, h1, h2⟩ := h.row
  rw [cell_of_row _ _ _ _ _ _ h1]
  simp only [List.length_take, List.length_drop, ptl, List.length_map] at hj
  have hk : k + j < R.length := by omega
  rw [List.getElem?_take, if_pos (by omega), List.getElem?_drop, ptl, List.getElem?_map, List.getElem?_eq_getElem hk]
  exact h2 _ _ (List.getElem?_eq_getElem hk)
theorem rd_ne {w : World} {pd qd cd dp : Nat} {L : List Tq} {R : List Rc} (h : Rd w pd qd cd dp L R) : qd ≠ pd ∧ ∀ (r : Rc) (t : Tq) (k : Nat), R[k]? = some r → L[k]? = some t → r.pt ≠ pd ∧ r.pt ≠ qd ∧ r.p ≠ pd ∧ r.q ≠ pd := by
  obtain ⟨cs, h1, h2⟩ := h.row
  have hb := h.blk
  refine ⟨fun e => by rw [e, hb] at h1; simp at h1, fun r t k hr ht => ⟨fun e => ?_, fun e => ?_, fun e => ?_, fun e => ?_⟩⟩
  · have := (h.tab k r t hr ht).1
    rw [e, hb] at this
    simp at this
  · have := (h.tab k r t hr ht).1
    rw [e, h1] at this
    simp at this
  · have := (h.tab k r t hr ht).2.blk
    rw [e, hb] at this
    simp at this
  · obtain ⟨ds, hds, _⟩ := (h.tab k r t hr ht).2.row
    rw [e, hb] at hds
    simp at hds
theorem rd_old {w : World} {pd qd cd dp : Nat} {L : List Tq} {R : List Rc} (h : Rd w pd qd cd dp L R) {k : Nat} {r : Rc} (hr : R[k]? = some r) : r.pt < w.heap.size ∧ r.p < w.heap.size ∧ r.q < w.heap.size := by
  obtain ⟨t, ht⟩ : ∃ t, L[k]? = some t := ⟨_, List.getElem?_eq_getElem (by rw [← h.len]; exact (List.getElem?_eq_some_iff.1 hr).1)⟩
  obtain ⟨b1, b2⟩ := h.tab k r t hr ht
  obtain ⟨ds, hds, _⟩ := b2.row
  exact ⟨lt_of_heap b1, lt_of_heap b2.blk, lt_of_heap hds⟩
theorem own_row {w : World} {base : Nat} {e : TypeId} {v : Value} {n : Nat} {xs : List Value} (h : w.ownsRow base e 1 v n xs) (hn : 0 < n) : ∃ g cap cur, v = .slice (some ⟨g, 0, none⟩) n cap ∧ base ≤ g ∧ w.heap[g]? = some (.cells cur e (0, 0)) ∧ n ≤ cap ∧ ∀ (k : Nat) (u : Value), xs[k]? = some u → cur[k]? = some u := by
  have hl := h.1
  rcases h.2 with ⟨h1, h2⟩ | ⟨g, cap, cur, h0, h1, h2, h3, h4, h5, h6⟩
  · omega
  · refine ⟨g, cap, cur, h0, h1, h2, h3, fun k u hu => ?_⟩
    have hk : k < xs.length := (List.getElem?_eq_some_iff.1 hu).1
    have : (cur.toList.take (n * 1))[k]? = cur[k]? := by
      rw [List.getElem?_take, if_pos (by omega)]; simp
    rw [← this, h6]
    exact hu
/-- The directory behind a split. -/
theorem rd_split {w W : World} {pd qd cd dp mx qd' cd' : Nat} {A B : List Tq} {t : Tq} {X0 X1 : List Nat} {RA RB : List Rc} {r n0 n1 : Rc} {cs : Array Value} (hD : Dq dp (A ++ t :: B)) (hm : max dp (t.d + 1) = mx) (hR : Rd w pd qd cd dp (A ++ t :: B) (RA ++ r :: RB)) (hA : RA.length = A.length) (x : Ext [pd] w W)
    (hblk : W.heap[pd]? = some (.cells #[.int .i64 (mx : Nat), .slice (some ⟨qd', 0, none⟩) (A ++ t :: B).length.succ cd'] 83 (0, 0)))
    (hrow : W.heap[qd']? = some (.cells cs 78 (0, 0))) (hcs : ∀ (k : Nat) (v : Value), (ptl (RA ++ n0 :: n1 :: RB))[k]? = some v → cs[k]? = some v)
    (hs0 : W.heap[n0.pt]? = some (.cells #[.int .i64 (t.d + 1 : Nat), .int .u64 (2 * lea dp (A ++ t :: B) A.length t : Nat), .pointer (some ⟨n0.p, 0, none⟩)] 80 (0, 0)))
    (hs1 : W.heap[n1.pt]? = some (.cells #[.int .i64 (t.d + 1 : Nat), .int .u64 (2 * lea dp (A ++ t :: B) A.length t + 1 : Nat), .pointer (some ⟨n1.p, 0, none⟩)] 80 (0, 0)))
    (hT0 : Rt W n0.p n0.q n0.c t.G X0) (hT1 : Rt W n1.p n1.q n1.c t.G X1)
    (hn0 : w.heap.size ≤ n0.pt ∧ w.heap.size ≤ n0.p ∧ w.heap.size ≤ n0.q) (hn1 : w.heap.size ≤ n1.pt ∧ w.heap.size ≤ n1.p ∧ w.heap.size ≤ n1.q)
    (hd : n0.pt ≠ n1.pt ∧ n0.p ≠ n1.p ∧ n0.q ≠ n1.q) (hcap : (A ++ t :: B).length.succ ≤ cd') :
    Rd W pd qd' cd' mx (A ++ ⟨t.d + 1, t.G, X0⟩ :: ⟨t.d + 1, t.G, X1⟩ :: B) (RA ++ n0 :: n1 :: RB) := by
  have hlen : (A ++ (⟨t.d + 1, t.G, X0⟩ : Tq) :: ⟨t.d + 1, t.G, X1⟩ :: B).length = (A ++ t :: B).length.succ := by simp; omega
  have hRl := hR.len
  refine ⟨by rw [hlen]; exact hblk, ?_, ⟨cs, hrow, fun k s hs => hcs k _ (by rw [ptl, List.getElem?_map, hs]; rfl)⟩, fun k s u hs hu => ?_, fun i j s s' hi hj hij => ?_, by rw [hlen]; exact hcap⟩
  · simp only [List.length_append, List.length_cons] at hRl ⊢
    omega
  · rcases two_at hs with ⟨k1, c1⟩ | ⟨k1, e1⟩ | ⟨k1, e1⟩ | ⟨j, k1, _, c1⟩ <;> rcases two_at hu with ⟨m1, d1⟩ | ⟨m1, e2⟩ | ⟨m1, e2⟩ | ⟨j', m1, _, d1⟩ <;> first | omega | skip
    · have hs2 := c1 (r :: RB)
      have hu2 := d1 (t :: B)
      obtain ⟨b1, b2⟩ := hR.tab k s u hs2 hu2
      obtain ⟨e1, _, e3, e4⟩ := (rd_ne hR).2 s u k hs2 hu2
      refine ⟨?_, b2.keep x (by simpa using e3) (by simpa using e4)⟩
      rw [lea_lo (t0 := ⟨t.d + 1, t.G, X0⟩) (t1 := ⟨t.d + 1, t.G, X1⟩) hD hm rfl rfl m1 hu2]
      exact x.keep b1 (by simpa using e1)
    · rw [k1, hA, e1, e2]
      refine ⟨?_, hT0⟩
      rw [lea_t0 (t0 := ⟨t.d + 1, t.G, X0⟩) (t1 := ⟨t.d + 1, t.G, X1⟩) hD hm rfl rfl]
      exact hs0
    · rw [k1, hA, e1, e2]
      refine ⟨?_, hT1⟩
      rw [lea_t1 (t0 := ⟨t.d + 1, t.G, X0⟩) (t1 := ⟨t.d + 1, t.G, X1⟩) hD hm rfl rfl]
      exact hs1
    · obtain rfl : j = j' := by omega
      have hs2 := c1 r
      have hu2 := d1 t
      rw [hA] at hs2
      obtain ⟨b1, b2⟩ := hR.tab _ s u hs2 hu2
      obtain ⟨e1, _, e3, e4⟩ := (rd_ne hR).2 s u _ hs2 hu2
      refine ⟨?_, b2.keep x (by simpa using e3) (by simpa using e4)⟩
      rw [m1, lea_hi (t0 := ⟨t.d + 1, t.G, X0⟩) (t1 := ⟨t.d + 1, t.G, X1⟩) hD hm rfl rfl hu2]
      exact x.keep b1 (by simpa using e1)
  · have old : ∀ (k : Nat) (s : Rc), (RA ++ r :: RB)[k]? = some s → s.pt < w.heap.size ∧ s.p < w.heap.size ∧ s.q < w.heap.size := fun k s hs => rd_old hR hs
    rcases two_at hi with ⟨k1, c1⟩ | ⟨k1, e1⟩ | ⟨k1, e1⟩ | ⟨k, k1, _, c1⟩ <;> rcases two_at hj with ⟨m1, d1⟩ | ⟨m1, e2⟩ | ⟨m1, e2⟩ | ⟨m, m1, _, d1⟩ <;> first | (exfalso; omega) | skip
    · exact hR.dis i j s s' (c1 _) (d1 _) hij
    · have := old i s (c1 (r :: RB)); rw [e2]; omega
    · have := old i s (c1 (r :: RB)); rw [e2]; omega
    · exact hR.dis i _ s s' (c1 _) (d1 r) (by omega)
    · have := old j s' (d1 (r :: RB)); rw [e1]; omega
    · rw [e1, e2]; exact hd
    · have := old _ s' (d1 r); rw [e1]; omega
    · have := old j s' (d1 (r :: RB)); rw [e1]; omega
    · rw [e1, e2]; exact ⟨fun e => hd.1 e.symm, fun e => hd.2.1 e.symm, fun e => hd.2.2 e.symm⟩
    · have := old _ s' (d1 r); rw [e1]; omega
    · exact hR.dis _ j s s' (c1 r) (d1 _) (by omega)
    · have := old _ s (c1 r); rw [e2]; omega
    · have := old _ s (c1 r); rw [e2]; omega
    · exact hR.dis _ _ s s' (c1 r) (d1 r) (by omega)
end Go.Proofs.YtkfagfdefkaenaaDoor.Rf

/-
  Where Insert finds no room it has made none before; no statement is proved here.
-/
namespace Go.Proofs.YtkfagfdefkaenaaDoor.Rf
open Go.RowKit Go.Shelf
open Pr (Gp GpI sq pl)

theorem split_tab {dp h : Nat} {A B : List Tq} {t : Tq} {X0 X1 : List Nat} (hD : Dq dp (A ++ t :: B)) (hT : TabOf dp (A ++ t :: B) A t B h) (h6 : t.d < 6) (hD' : Dq (max dp (t.d + 1)) (A ++ ⟨t.d + 1, t.G, X0⟩ :: ⟨t.d + 1, t.G, X1⟩ :: B))
    {A' B' : List Tq} {t' : Tq} (hT' : TabOf (max dp (t.d + 1)) (A ++ ⟨t.d + 1, t.G, X0⟩ :: ⟨t.d + 1, t.G, X1⟩ :: B) A' t' B' h) : t' = ⟨t.d + 1, t.G, X0⟩ ∨ t' = ⟨t.d + 1, t.G, X1⟩ := by
  have hle := hT.ot.le
  have hdp := hD.le
  obtain ⟨dm, hdm⟩ : ∃ dm, max dp (t.d + 1) = dm := ⟨_, rfl⟩
  rw [hdm] at hD' hT'
  have hdm6 := hD'.le
  have hok := hD'.ok
  rw [ok_app, Ok, Ok, Nat.zero_add] at hok
  obtain ⟨_, o0, o1, _⟩ := hok
  have hpre : pre dm A / wdt dm t = ld h t.d := by
    by_cases q : t.d < dp
    · rw [show dm = dp by omega]; exact hT.lead.symm
    · obtain rfl : dp = t.d := by omega
      have hA := hD.ok
      rw [ok_app] at hA
      rw [show dm = t.d + 1 by omega, (ok_up A 0 hA.1).2]
      have hw : wdt (t.d + 1) t = 2 * wdt t.d t := by unfold wdt; simp
      rw [hw, Nat.mul_div_mul_left _ _ (by omega)]
      exact hT.lead.symm
  have hw : wdt dm t = 2 * wdt dm ⟨t.d + 1, t.G, X0⟩ := by
    unfold wdt
    show 2 ^ (dm - t.d) = 2 * 2 ^ (dm - (t.d + 1))
    rw [show dm - t.d = (dm - (t.d + 1)) + 1 by omega, Nat.pow_succ, Nat.mul_comm]
  have hw1 : wdt dm ⟨t.d + 1, t.G, X1⟩ = wdt dm ⟨t.d + 1, t.G, X0⟩ := rfl
  have hp := wdt_pos dm ⟨t.d + 1, t.G, X0⟩
  have hn := ld_next (h := h) (k := t.d) (by omega)
  obtain ⟨a, ha⟩ : ∃ a, pre dm A / wdt dm ⟨t.d + 1, t.G, X0⟩ = a := ⟨_, rfl⟩
  have hq : pre dm A = wdt dm ⟨t.d + 1, t.G, X0⟩ * a := by
    have := Nat.div_add_mod (pre dm A) (wdt dm ⟨t.d + 1, t.G, X0⟩)
    rw [o0.mul, ha] at this; exact this.symm
  have ho1 := o1.mul
  rw [hw1] at ho1
  have hev : a % 2 = 0 := by
    have h2 : pre dm A % wdt dm t = 0 := by
      by_cases q : t.d < dp
      · rw [show dm = dp by omega]; exact hT.ot.mul
      · obtain rfl : dp = t.d := by omega
        have hA := hD.ok
        rw [ok_app] at hA
        rw [show dm = t.d + 1 by omega, (ok_up A 0 hA.1).2]
        have hw : wdt (t.d + 1) t = 2 * wdt t.d t := by unfold wdt; simp
        rw [hw, Nat.mul_mod_mul_left, hT.ot.mul]
    rw [hw, hq, Nat.mul_comm 2, Nat.mul_mod_mul_left] at h2
    rcases Nat.mul_eq_zero.1 h2 with q | q
    · omega
    · exact q
  have ha2 : a / 2 = ld h t.d := by
    rw [← hpre, hw, hq, Nat.mul_comm 2, Nat.mul_div_mul_left _ _ hp]
  rcases (show ld h (t.d + 1) % 2 = 0 ∨ ld h (t.d + 1) % 2 = 1 by omega) with q | q
  · obtain ⟨_, e, _⟩ := tab_uniq (t := ⟨t.d + 1, t.G, X0⟩) (h := h) (by omega) hT'.eq o0.le o0.mul (by show ld h (t.d + 1) = _; rw [ha]; omega) hT'.ot.le hT'.ot.mul hT'.lead
    exact .inl e.symm
  · have hpa : pre dm (A ++ [⟨t.d + 1, t.G, X0⟩]) = pre dm A + wdt dm ⟨t.d + 1, t.G, X0⟩ := by rw [pre_app, pre, pre, Nat.add_zero]
    obtain ⟨_, e, _⟩ := tab_uniq (A := A ++ [⟨t.d + 1, t.G, X0⟩]) (t := ⟨t.d + 1, t.G, X1⟩) (B := B) (h := h) (by omega) (by rw [List.append_assoc]; exact hT'.eq) o1.le (by rw [hpa]; exact o1.mul) (by show ld h (t.d + 1) = _; rw [hpa, hw1, hq, ← Nat.mul_succ, Nat.mul_div_cancel_left _ hp]; omega) hT'.ot.le hT'.ot.mul hT'.lead
    exact .inr e.symm
/-- Tables that may be split have two groups at most. -/
def G2 (L : List Tq) : Prop := ∀ t ∈ L, t.d < 6 → t.G ≤ 2
theorem g2_new : G2 [⟨0, 1, newT 1⟩] := by
  intro t ht _
  rw [List.mem_singleton] at ht
  subst ht
  show 1 ≤ 2
  omega
theorem g2_rep {A B : List Tq} {t u : Tq} (g : G2 (A ++ t :: B)) (h : u.d < 6 → u.G ≤ 2) : G2 (A ++ u :: B) := by
  intro x hx h6
  simp only [List.mem_append, List.mem_cons] at hx
  rcases hx with q | q | q
  · exact g x (by simp [q]) h6
  · subst q; exact h h6
  · exact g x (by simp [q]) h6
theorem stp_dq {h d dp dp' : Nat} {L L' : List Tq} (hD : Dq dp L) (s : Stp h d dp L dp' L') : Dq dp' L' := by
  obtain ⟨A, t, B, hT, hn, hdp, hc⟩ := s
  obtain rfl := hT.eq
  rcases hc with ⟨X0, X1, ⟨_, _, h6⟩, f0, f1, rfl, rfl⟩ | ⟨X, c, f, rfl, rfl⟩
  · exact dq_max hD h6 f0.toHol f1.toHol
  · exact dq_rep (t' := ⟨t.d, rmG t, X⟩) hD rfl f.sd (fun e he => hT.ot.lead e ((hol_perm f.toHol).mem_iff.1 he))
theorem stp_g2 {h d dp dp' : Nat} {L L' : List Tq} (g : G2 L) (s : Stp h d dp L dp' L') : G2 L' := by
  obtain ⟨A, t, B, hT, hn, hdp, hc⟩ := s
  obtain rfl := hT.eq
  rcases hc with ⟨X0, X1, ⟨_, _, h6⟩, f0, f1, rfl, rfl⟩ | ⟨X, c, f, rfl, rfl⟩
  · have ht := g t (by simp) h6
    intro x hx hx6
    simp only [List.mem_append, List.mem_cons] at hx
    rcases hx with q | q | q | q
    · exact g x (by simp [q]) hx6
    · subst q; exact ht
    · subst q; exact ht
    · exact g x (by simp [q]) hx6
  · refine g2_rep g (fun h6 => ?_)
    have h6' : t.d < 6 := h6
    have ht := g t (by simp) h6'
    show rmG t ≤ 2
    unfold rmG
    split
    · exact ht
    · split
      · omega
      · omega
theorem rm_len {t : Tq} (hS : Sd t.T t.G) : (ents t.T t.G).length < 7 * rmG t := by
  have h7 := sd_len7 hS
  have hp := hS.shp.gp.pos
  unfold rmG
  split
  · omega
  · split <;> omega
theorem stp_flu2 {h d dp dp' : Nat} {L L' : List Tq} (hD : Dq dp L) (g : G2 L) (s : Stp h d dp L dp' L') (f : Flu h d dp' L') : False := by
  have hD' := stp_dq hD s
  obtain ⟨A, t, B, hT, hn, hdp, hc⟩ := s
  obtain ⟨A', t', B', hT', _, hn', h1, h2, h3, h4⟩ := f
  obtain rfl := hT.eq
  rcases hc with ⟨X0, X1, ⟨_, _, h6⟩, f0, f1, rfl, rfl⟩ | ⟨X, c, f, rfl, rfl⟩
  · have ht := g t (by simp) h6
    rcases split_tab hD hT h6 hD' hT' with e | e
    · rw [e] at h1
      have : 4096 ≤ t.G := h1
      omega
    · rw [e] at h1
      have : 4096 ≤ t.G := h1
      omega
  · obtain ⟨_, e, _⟩ := tab_uniq (t := ⟨t.d, rmG t, X⟩) (h := h) (by omega) hT'.eq hT.ot.le hT.ot.mul hT.lead hT'.ot.le hT'.ot.mul hT'.lead
    subst e
    have h7 := hol_full f.toHol hn'
    have := rm_len hT.ot.sd
    omega
theorem rmd_flu {h d : Nat} : ∀ {k dp d1 : Nat} {L L1 : List Tq}, Dq dp L → G2 L → Rmd h d k dp L d1 L1 → Flu h d d1 L1 → d1 = dp ∧ L1 = L
  | 0, _, _, _, _, _, _, r, _ => r
  | _ + 1, _, _, _, _, hD, g, r, f => by
    obtain ⟨dm, Lm, s, r⟩ := r
    obtain ⟨rfl, rfl⟩ := rmd_flu (stp_dq hD s) (stp_g2 g s) r f
    exact (stp_flu2 hD g s f).elim
theorem rmd_dq {h d : Nat} : ∀ {k dp d1 : Nat} {L L1 : List Tq}, Dq dp L → G2 L → Rmd h d k dp L d1 L1 → Dq d1 L1 ∧ G2 L1
  | 0, _, _, _, _, hD, g, r => by
    rw [Rmd] at r
    obtain ⟨rfl, rfl⟩ := r
    exact ⟨hD, g⟩
  | _ + 1, _, _, _, _, hD, g, r => by
    obtain ⟨dm, Lm, s, r⟩ := r
    exact rmd_dq (stp_dq hD s) (stp_g2 g s) r
theorem ins_dq {h d dp dp' : Nat} {L L' : List Tq} (hD : Dq dp L) (g : G2 L) (hh : h < 18446744073709551616) (hd : d < 18446744073709551616) (i : InsD h d dp L (some (dp', L'))) : Dq dp' L' ∧ G2 L' := by
  obtain ⟨d1, L1, ⟨k, r⟩, A, t, B, T', hT, hdp, hI, rfl, rfl⟩ := i
  obtain ⟨hD1, g1⟩ := rmd_dq hD g r
  obtain rfl := hT.eq
  obtain ⟨hS', hp⟩ := ins_perm hT.ot.sd hh hd hI
  refine ⟨dq_rep (t' := ⟨t.d, t.G, T'⟩) hD1 rfl hS' (fun e he => ?_), g2_rep g1 (g1 t (by simp))⟩
  rcases List.mem_cons.1 (hp.mem_iff.1 he) with q | q
  · subst q; exact hT.lead
  · exact hT.ot.lead e q
theorem del_dq {h d dp : Nat} {L L' : List Tq} (hD : Dq dp L) (g : G2 L) (i : DelD h d dp L (some L')) : Dq dp L' ∧ G2 L' := by
  obtain ⟨A, t, B, T', hT, hI, rfl⟩ := i
  obtain rfl := hT.eq
  obtain ⟨hS', hp⟩ := del_perm hT.ot.sd hI
  exact ⟨dq_rep (t' := ⟨t.d, t.G, T'⟩) hD rfl hS' (fun e he => hT.ot.lead e (hp.mem_iff.2 (List.mem_cons_of_mem _ he))), g2_rep g (g t (by simp))⟩
theorem delD_det {h d dp : Nat} {L : List Tq} (hdp : dp ≤ 6) {O O' : Option (List Tq)} (a : DelD h d dp L O) (b : DelD h d dp L O') : O = O' := by
  cases O with
  | none =>
    obtain ⟨A, t, B, hT, hI⟩ := a
    cases O' with
    | none => rfl
    | some L' =>
      obtain ⟨A', t', B', T', hT', hI', rfl⟩ := b
      obtain ⟨rfl, rfl, rfl⟩ := tab_one hdp hT hT'
      have := delT_det hI hI'
      simp at this
  | some L1 =>
    obtain ⟨A, t, B, T1, hT, hI, rfl⟩ := a
    cases O' with
    | none =>
      obtain ⟨A', t', B', hT', hI'⟩ := b
      obtain ⟨rfl, rfl, rfl⟩ := tab_one hdp hT hT'
      have := delT_det hI hI'
      simp at this
    | some L' =>
      obtain ⟨A', t', B', T', hT', hI', rfl⟩ := b
      obtain ⟨rfl, rfl, rfl⟩ := tab_one hdp hT hT'
      have := delT_det hI hI'
      simp at this
      rw [this]
end Go.Proofs.YtkfagfdefkaenaaDoor.Rf

/-
  One table of the document's directory grows; no statement is proved here.
-/
namespace Go.Proofs.YtkfagfdefkaenaaDoor.Rf
open Go.RowKit Go.Shelf
open Pr (Gp GpI)

theorem one_at {α : Type} {A B : List α} {x u : α} {k : Nat} (h : (A ++ x :: B)[k]? = some u) : (k = A.length ∧ u = x) ∨ (k ≠ A.length ∧ ∀ z : α, (A ++ z :: B)[k]? = some u) := by
  rcases Nat.lt_trichotomy k A.length with q | q | q
  · rw [List.getElem?_append_left q] at h
    exact .inr ⟨by omega, fun z => by rw [List.getElem?_append_left q]; exact h⟩
  · subst q
    simp at h
    exact .inl ⟨rfl, h.symm⟩
  · rw [List.getElem?_append_right (by omega)] at h
    obtain ⟨j, hj⟩ : ∃ j, k - A.length = j + 1 := ⟨k - A.length - 1, by omega⟩
    rw [hj] at h
    exact .inr ⟨by omega, fun z => by rw [List.getElem?_append_right (by omega), hj]; simpa using h⟩
theorem rd_grow {w W : World} {pd qd cd dp M : Nat} {A B : List Tq} {t : Tq} {X : List Nat} {RA RB : List Rc} {r n0 : Rc} (hR : Rd w pd qd cd dp (A ++ t :: B) (RA ++ r :: RB)) (hA : RA.length = A.length) (x : Ext [r.pt] w W) (hp : n0.pt = r.pt)
    (hb : W.heap[r.pt]? = some (.cells #[.int .i64 (t.d : Nat), .int .u64 (lea dp (A ++ t :: B) A.length t : Nat), .pointer (some ⟨n0.p, 0, none⟩)] 80 (0, 0))) (hT : Rt W n0.p n0.q n0.c M X) (hn : w.heap.size ≤ n0.p ∧ w.heap.size ≤ n0.q) :
    Rd W pd qd cd dp (A ++ ⟨t.d, M, X⟩ :: B) (RA ++ n0 :: RB) := by
  have hrA : (RA ++ r :: RB)[A.length]? = some r := by rw [← hA]; simp
  have htA : (A ++ t :: B)[A.length]? = some t := by simp
  obtain ⟨hqp, hne⟩ := rd_ne hR
  obtain ⟨e1, e2, e3, e4⟩ := hne r t A.length hrA htA
  obtain ⟨cs, hcs, hcs2⟩ := hR.row
  have hbr := (hR.tab A.length r t hrA htA).1
  have hlen : (A ++ (⟨t.d, M, X⟩ : Tq) :: B).length = (A ++ t :: B).length := by simp
  have hRl := hR.len
  have hlea : ∀ (k : Nat) (u u' : Tq), u.d = u'.d → lea dp (A ++ (⟨t.d, M, X⟩ : Tq) :: B) k u = lea dp (A ++ t :: B) k u' := fun k u u' e => by
    unfold lea
    rw [pre_rep dp (t := t) (t' := ⟨t.d, M, X⟩) rfl A B]
    unfold wdt
    rw [e]
  refine ⟨by rw [hlen]; exact x.keep hR.blk (by simpa using fun e => e1 e.symm), by simp only [List.length_append, List.length_cons] at hRl ⊢; omega, ⟨cs, x.keep hcs (by simpa using fun e => e2 e.symm), fun k s hs => ?_⟩, fun k s u hs hu => ?_, fun i j s s' hi hj hij => ?_, by rw [hlen]; exact hR.cap⟩
  · rcases one_at hs with ⟨k1, e⟩ | ⟨k1, c1⟩
    · rw [e, hp, k1, hA]
      exact hcs2 _ r hrA
    · exact hcs2 k s (c1 r)
  · rcases one_at hs with ⟨k1, e⟩ | ⟨k1, c1⟩ <;> rcases one_at hu with ⟨m1, e'⟩ | ⟨m1, d1⟩ <;> first | (exfalso; omega) | skip
    · rw [e, e', hp, m1, hlea A.length ⟨t.d, M, X⟩ t rfl]
      exact ⟨hb, hT⟩
    · have hs2 := c1 r
      have hu2 := d1 t
      obtain ⟨b1, b2⟩ := hR.tab k s u hs2 hu2
      have hd := hR.dis k A.length s r hs2 hrA (by omega)
      obtain ⟨ds, hds, _⟩ := b2.row
      rw [hlea k u u rfl]
      refine ⟨x.keep b1 (by simpa using hd.1), b2.keep x ?_ ?_⟩
      · intro h
        rw [List.mem_singleton] at h
        have := b2.blk
        rw [h, hbr] at this
        simp at this
      · intro h
        rw [List.mem_singleton] at h
        rw [h, hbr] at hds
        simp at hds
  · rcases one_at hi with ⟨k1, e⟩ | ⟨k1, c1⟩ <;> rcases one_at hj with ⟨m1, e'⟩ | ⟨m1, d1⟩ <;> first | (exfalso; omega) | skip
    · have := rd_old hR (d1 r)
      have hd := hR.dis A.length j r s' hrA (d1 r) (by omega)
      rw [e, hp]
      exact ⟨hd.1, by omega, by omega⟩
    · have := rd_old hR (c1 r)
      have hd := hR.dis i A.length s r (c1 r) hrA (by omega)
      rw [e', hp]
      exact ⟨hd.1, by omega, by omega⟩
    · exact hR.dis i j s s' (c1 r) (d1 r) hij
end Go.Proofs.YtkfagfdefkaenaaDoor.Rf
