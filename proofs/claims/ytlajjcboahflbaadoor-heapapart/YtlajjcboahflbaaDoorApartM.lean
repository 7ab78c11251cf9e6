/-
  Objects apart from one another, spans and holes that cover all pages: plain facts; no statement is proved here.
-/
import Derived.Test.YtlajjcboahflbaaDoorWBack
namespace Go.Proofs.YtlajjcboahflbaaDoor

theorem mem_sobs {x : Spn} {o : Ob} : ∀ {i : Nat}, o ∈ sobs x i → ∃ j, j < i ∧ 0 < (x.S.getD j (0, 0)).1 ∧ o = (((adr x j : Nat) : Int), (x.S.getD j (0, 0)).1, (x.S.getD j (0, 0)).2)
  | 0, h => by cases h
  | i + 1, h => by
    by_cases hp : 0 < (x.S.getD i (0, 0)).1
    · rw [sobs_yes hp] at h
      rcases List.mem_append.1 h with q | q
      · obtain ⟨j, h1, h2⟩ := mem_sobs q; exact ⟨j, by omega, h2⟩
      · exact ⟨i, by omega, hp, by simpa using q⟩
    · rw [sobs_no hp] at h
      obtain ⟨j, h1, h2⟩ := mem_sobs h; exact ⟨j, by omega, h2⟩
theorem Spn.Ok.slotsz {x : Spn} (h : x.Ok) (j : Nat) : 0 ≤ (x.S.getD j (0, 0)).1 ∧ (x.S.getD j (0, 0)).1 ≤ x.rm := by
  by_cases hj : j < x.S.length
  · have : x.S.getD j (0, 0) ∈ x.S := by simp [List.getD, hj]
    exact h.sz _ this
  · have : x.S.getD j (0, 0) = (0, 0) := by simp [List.getD, Nat.le_of_not_lt hj]
    rw [this]; simp
theorem sobs_apart {x : Spn} (h : x.Ok) : ∀ i, (sobs x i).Pairwise (fun a b => a.1 + a.2.1 ≤ b.1)
  | 0 => by simp [sobs]
  | i + 1 => by
    have ih := sobs_apart h i
    by_cases hp : 0 < (x.S.getD i (0, 0)).1
    · rw [sobs_yes hp, List.pairwise_append]
      refine ⟨ih, by simp, fun a ha b hb => ?_⟩
      obtain ⟨j, h1, h2, rfl⟩ := mem_sobs ha
      simp only [List.mem_singleton] at hb
      subst hb
      have := (h.slotsz j).2
      have h3 : (j + 1) * x.rm ≤ i * x.rm := Nat.mul_le_mul_right _ (by omega)
      rw [Nat.add_mul] at h3
      simp only [adr]
      omega
    · rw [sobs_no hp]; exact ih
theorem sobs_in {x : Spn} (h : x.Ok) {o : Ob} (ho : o ∈ sobs x x.S.length) : o.1 % 8 = 0 ∧ 1 ≤ o.2.1 ∧ ((x.st : Int) + 1) * 256 ≤ o.1 ∧ o.1 + o.2.1 ≤ ((x.st : Int) + 1) * 256 + x.n * 256 ∧ o.2.1 ≤ x.rm := by
  obtain ⟨j, h1, h2, rfl⟩ := mem_sobs ho
  have h3 := (h.slotsz j).2
  have h4 := h.slot h1
  rw [Nat.add_mul] at h4
  have h8 := h.rm8
  have h5 : (j * x.rm) % 8 = 0 := by rw [Nat.mul_mod, h8]; simp
  simp only [adr]
  refine ⟨by omega, by omega, by omega, by omega, h3⟩
theorem objs_apart {L : List Spn} (hk : ∀ x ∈ L, x.Ok) (hp : L.Pairwise (fun x y => x.st + x.n ≤ y.st)) : (objs L).Pairwise (fun a b => a.1 + a.2.1 ≤ b.1) := by
  induction L with
  | nil => simp [objs]
  | cons x L ih =>
    obtain ⟨h1, h2⟩ := List.pairwise_cons.1 hp
    have e : objs (x :: L) = sobs x x.S.length ++ objs L := by simp [objs]
    rw [e, List.pairwise_append]
    refine ⟨sobs_apart (hk x (by simp)) _, ih (fun y hy => hk y (by simp [hy])) h2, fun a ha b hb => ?_⟩
    obtain ⟨y, hy, hb⟩ := List.mem_flatMap.1 hb
    have q1 := sobs_in (hk x (by simp)) ha
    have q2 := sobs_in (hk y (by simp [hy])) hb
    have := h1 y hy
    omega

/-! ### sums -/
def sumN (L : List Spn) : Nat := (L.map Spn.n).sum
def sumU (L : List Spn) : Nat := (L.map fun x => us x.S).sum
def sumR (L : List Rn) : Nat := (L.map Rn.n).sum
theorem sobs_count (x : Spn) : ∀ i, i ≤ x.S.length → (sobs x i).length = us (x.S.take i)
  | 0, _ => by simp [sobs, us]
  | i + 1, h => by
    have ih := sobs_count x i (by omega)
    have e : x.S.take (i + 1) = x.S.take i ++ [x.S.getD i (0, 0)] := by
      rw [List.take_add_one]; simp [List.getD, List.getElem?_eq_getElem (show i < x.S.length by omega)]
    rw [e]
    unfold us at ih ⊢
    rw [List.countP_append, ← ih]
    by_cases hp : 0 < (x.S.getD i (0, 0)).1
    · rw [sobs_yes hp]
      generalize x.S.getD i (0, 0) = y at *
      simp [hp]
    · rw [sobs_no hp]
      generalize x.S.getD i (0, 0) = y at *
      simp only [List.countP_cons, List.countP_nil, hp, decide_false]
      simp
theorem objs_count (L : List Spn) : (objs L).length = sumU L := by
  induction L with
  | nil => rfl
  | cons x L ih =>
    have := sobs_count x x.S.length (Nat.le_refl _)
    rw [List.take_length] at this
    simp only [objs, List.flatMap_cons, List.length_append, sumU, List.map_cons, List.sum_cons] at ih ⊢
    omega
theorem sum_used (R : List Rn) : sumR (used R) + sumR (fr R) = sumR R := by
  induction R with
  | nil => rfl
  | cons r R ih =>
    cases hr : r.u <;> simp [used, fr, sumR, hr] at ih ⊢ <;> omega
theorem sum_end (R : List Rn) : ∀ a, endAt a R = a + sumR R := by
  induction R with
  | nil => intro a; rfl
  | cons r R ih => intro a; simp only [endAt, ih, sumR, List.map_cons, List.sum_cons]; omega
theorem Hv.cover {H : Hs} (h : Hv H) : sumN H.sp + sumR (fr H.R) = H.P := by
  have e1 : sumN H.sp = sumR (used H.R) := by rw [← h.run]; unfold sumN sumR; rw [List.map_map]; rfl
  have e2 := sum_used H.R
  have e3 := sum_end H.R 0
  rw [h.inv.end_] at e3
  omega

theorem sumN_snoc {L : List Spn} {k : Nat} (h : k < L.length) : sumN (L.take (k + 1)) = sumN (L.take k) + L[k].n := by
  rw [List.take_add_one, List.getElem?_eq_getElem h]
  unfold sumN
  rw [List.map_append, List.sum_append]; simp
theorem sumU_snoc {L : List Spn} {k : Nat} (h : k < L.length) : sumU (L.take (k + 1)) = sumU (L.take k) + us L[k].S := by
  rw [List.take_add_one, List.getElem?_eq_getElem h]
  unfold sumU
  rw [List.map_append, List.sum_append]; simp
theorem sumR_snoc {L : List Rn} {k : Nat} (h : k < L.length) : sumR (L.take (k + 1)) = sumR (L.take k) + L[k].n := by
  rw [List.take_add_one, List.getElem?_eq_getElem h]
  unfold sumR
  rw [List.map_append, List.sum_append]; simp
theorem sumN_le (L : List Spn) (k : Nat) : sumN (L.take k) ≤ sumN L := by
  have : sumN L = sumN (L.take k) + sumN (L.drop k) := by unfold sumN; rw [← List.sum_append, ← List.map_append, List.take_append_drop]
  omega
theorem sumU_le (L : List Spn) (k : Nat) : sumU (L.take k) ≤ sumU L := by
  have : sumU L = sumU (L.take k) + sumU (L.drop k) := by unfold sumU; rw [← List.sum_append, ← List.map_append, List.take_append_drop]
  omega
theorem sumR_le (L : List Rn) (k : Nat) : sumR (L.take k) ≤ sumR L := by
  have : sumR L = sumR (L.take k) + sumR (L.drop k) := by unfold sumR; rw [← List.sum_append, ← List.map_append, List.take_append_drop]
  omega

/-- What is known of the object at a place of the list. -/
structure ObAt (H : Hs) (i : Nat) (x : Ob) : Prop where
  m8 : x.1 % 8 = 0
  s1 : 1 ≤ x.2.1
  lo : 0 ≤ x.1
  hi : x.1 + x.2.1 ≤ 262400
  sp : ∃ (k : Nat) (y : Spn), H.sp[k]? = some y ∧ ((y.st : Int) + 1) * 256 ≤ x.1 ∧ x.1 + x.2.1 ≤ ((y.st : Int) + 1) * 256 + y.n * 256 ∧ x.2.1 ≤ y.rm
  pr : ∀ (j : Nat) (z : Ob), j < i → (objs H.sp)[j]? = some z → z.1 + z.2.1 ≤ x.1
theorem Hv.obAt {H : Hs} (h : Hv H) {i : Nat} {x : Ob} (hx : (Go.Proofs.YtlajjcboahflbaaDoor.objs H.sp)[i]? = some x) : ObAt H i x := by
  obtain ⟨hi, rfl⟩ := List.getElem?_eq_some_iff.1 hx
  obtain ⟨y, hy, ho⟩ := List.mem_flatMap.1 (List.getElem_mem hi)
  obtain ⟨q1, q2, q3, q4, q5⟩ := sobs_in (h.ok y hy) ho
  have hle := h.le hy
  have hP := h.P1
  obtain ⟨k, hk⟩ := List.getElem?_of_mem hy
  refine ⟨q1, q2, by omega, by omega, ⟨k, y, hk, q3, q4, q5⟩, fun j z hj hz => ?_⟩
  obtain ⟨hj2, rfl⟩ := List.getElem?_eq_some_iff.1 hz
  exact List.pairwise_iff_getElem.1 (objs_apart h.ok h.sorted) j i hj2 hi hj

/-! ### the number of pages -/
theorem allocH_P (H : Hs) (s t : Int) : (allocH H s t).2.2.P = H.P := by
  unfold allocH
  split
  · split
    · rfl
    · split <;> rfl
  · rfl
theorem freeH_P (H : Hs) (a : Int) : (freeH H a).2.P = H.P := by
  unfold freeH
  split
  · rfl
  · split
    · simp only; split <;> rfl
    · rfl
theorem putH_P (H : Hs) (a n : Int) (f : Nat → Int) : (putH H a n f).P = H.P := by
  unfold putH; split <;> rfl
theorem opH_P (H : Hs) (L : List Int) (q : Oq) : (opH H L q).1.P = H.P := by
  unfold opH
  repeat' split
  all_goals first | exact freeH_P _ _ | exact putH_P _ _ _ _ | rfl | exact allocH_P _ _ _
theorem growH_P (S : List Oq) : ∀ (H : Hs) (L : List Int), (growH H L S).1.P = H.P := by
  induction S with
  | nil => intro H L; rfl
  | cons q S ih => intro H L; rw [growH, ih, opH_P]

end Go.Proofs.YtlajjcboahflbaaDoor
