/-
  Pages told page by page, as the statements' own reference keeps them: plain facts; no statement is proved here.
-/
import Derived.Test.YtkdgekdacinlhaaOpen
namespace Go.Proofs.Ytkdgekdacinlhaa
open Go.RowKit

def ofAt (O : List Int) (j : Nat) : Int := O.getD j 0
/-- What a page of a run holds. -/
def rv (r : Rn) : Int := if r.u then (r.s : Int) + 1 else 0
structure Of (P : Nat) (L : List Rn) (O : List Int) : Prop where
  len : O.length = P
  val : ∀ r ∈ L, ∀ j, r.s ≤ j → j < r.s + r.n → ofAt O j = rv r

theorem tile_at {pf : Bool} {a : Nat} {L : List Rn} (h : Tl pf a L) {j : Nat} (h1 : a ≤ j) (h2 : j < endAt a L) : ∃ r ∈ L, r.s ≤ j ∧ j < r.s + r.n := by
  induction L generalizing pf a with
  | nil => simp only [endAt] at h2; omega
  | cons q L ih =>
    by_cases hq : j < a + q.n
    · exact ⟨q, by simp, by have := h.1; omega, by have := h.1; omega⟩
    · obtain ⟨r, hr, h3⟩ := ih h.2.2.2 (by omega) h2
      exact ⟨r, by simp [hr], h3⟩
theorem tile_free {pf : Bool} {a : Nat} {L : List Rn} (h : Tl pf a L) {r r' : Rn} (hr : r ∈ L) (hr' : r' ∈ L) (hu : r.u = false) (h1 : r'.s ≤ r.s + r.n) (h2 : r.s + r.n < r'.s + r'.n) : r'.u = true := by
  induction L generalizing pf a with
  | nil => cases hr
  | cons q L ih =>
    have hq := h.1
    rcases List.mem_cons.1 hr with rfl | hr
    · rcases List.mem_cons.1 hr' with rfl | hr'
      · omega
      · have hL := h.2.2.2
        cases L with
        | nil => cases hr'
        | cons x L =>
          rcases List.mem_cons.1 hr' with rfl | hr'
          · exact hL.2.2.1 (by simp [hu])
          · have := mem_endAt hL.2.2.2 r' hr'
            have := hL.2.1
            omega
    · have hm := mem_endAt h.2.2.2 r hr
      rcases List.mem_cons.1 hr' with rfl | hr'
      · omega
      · exact ih h.2.2.2 hr hr'

theorem Inv.at_ {P : Nat} {L : List Rn} (h : Inv P L) {j : Nat} (hj : j < P) : ∃ r ∈ L, r.s ≤ j ∧ j < r.s + r.n := tile_at h.tl (Nat.zero_le _) (by rw [h.end_]; exact hj)
theorem Inv.one {P : Nat} {L : List Rn} (h : Inv P L) {r r' : Rn} (hr : r ∈ L) (hr' : r' ∈ L) {j : Nat} (h1 : r.s ≤ j) (h2 : j < r.s + r.n) (h3 : r'.s ≤ j) (h4 : j < r'.s + r'.n) : r = r' := by
  have e1 := find_tile h.tl (by rw [h.end_]; exact h.le) hr (page := j) (by omega) (by omega)
  have e2 := find_tile h.tl (by rw [h.end_]; exact h.le) hr' (page := j) (by omega) (by omega)
  rw [e1] at e2
  exact Option.some.inj e2

/-- How many free pages stand from p on. -/
structure ZR (O : List Int) (p k : Nat) : Prop where
  le : p + k ≤ O.length
  zero : ∀ j, p ≤ j → j < p + k → ofAt O j = 0
  stop : p + k < O.length → ofAt O (p + k) ≠ 0

theorem zr_free {P : Nat} {L : List Rn} {O : List Int} (hI : Inv P L) (hO : Of P L O) {r : Rn} (hr : r ∈ L) (hu : r.u = false) {p k : Nat} (h1 : r.s ≤ p) (h2 : p < r.s + r.n) (hz : ZR O p k) : p + k = r.s + r.n := by
  have hm := hI.mem r hr
  have hl := hO.len
  have hle := hz.le
  rcases Nat.lt_trichotomy (p + k) (r.s + r.n) with h | h | h
  · refine absurd (hO.val r hr (p + k) (by omega) h) ?_
    rw [show rv r = 0 by simp [rv, hu]]
    exact hz.stop (by omega)
  · exact h
  · obtain ⟨r', hr', h3, h4⟩ := hI.at_ (j := r.s + r.n) (by omega)
    have hu' := tile_free hI.tl hr hr' hu h3 h4
    have e1 := hO.val r' hr' _ h3 h4
    have e2 := hz.zero (r.s + r.n) (by omega) h
    rw [e2, rv, hu', if_pos rfl] at e1
    omega
theorem zr_used {P : Nat} {L : List Rn} {O : List Int} (hO : Of P L O) {r : Rn} (hr : r ∈ L) (hu : r.u = true) {p k : Nat} (h1 : r.s ≤ p) (h2 : p < r.s + r.n) (hz : ZR O p k) : k = 0 := by
  rcases Nat.eq_zero_or_pos k with h | h
  · exact h
  · have e1 := hO.val r hr p h1 h2
    rw [hz.zero p (Nat.le_refl _) (by omega), rv, hu, if_pos rfl] at e1
    omega
/-- So the pages from any one on are no more than its run has. -/
theorem zr_le {P : Nat} {L : List Rn} {O : List Int} (hI : Inv P L) (hO : Of P L O) {r : Rn} (hr : r ∈ L) {p k : Nat} (h1 : r.s ≤ p) (h2 : p < r.s + r.n) (hz : ZR O p k) : k = 0 ∨ (r.u = false ∧ k ≤ r.n) := by
  cases hu : r.u
  · exact .inr ⟨rfl, by have := zr_free hI hO hr hu h1 h2 hz; omega⟩
  · exact .inl (zr_used hO hr hu h1 h2 hz)

/-! ### writing -/

def fill (O : List Int) (s : Nat) (v : Int) : Nat → List Int
  | 0 => O
  | k + 1 => (fill O s v k).set (s + k) v
theorem fill_len (O : List Int) (s : Nat) (v : Int) : ∀ k, (fill O s v k).length = O.length
  | 0 => rfl
  | k + 1 => by rw [fill, List.length_set, fill_len O s v k]
theorem ofAt_set {O : List Int} {i : Nat} (v : Int) (h : i < O.length) (j : Nat) : ofAt (O.set i v) j = if j = i then v else ofAt O j := by
  simp only [ofAt, List.getD, List.getElem?_set]
  by_cases e : j = i
  · subst e; simp [h]
  · rw [if_neg (fun q => e q.symm), if_neg e]
theorem fill_at {O : List Int} {s : Nat} (v : Int) : ∀ k, s + k ≤ O.length → ∀ j, ofAt (fill O s v k) j = if s ≤ j ∧ j < s + k then v else ofAt O j
  | 0, _, j => by rw [fill, if_neg (by omega)]
  | k + 1, h, j => by
    rw [fill, ofAt_set v (by rw [fill_len]; omega), fill_at v k (by omega) j]
    by_cases e : j = s + k
    · rw [if_pos e, if_pos (by omega)]
    · rw [if_neg e]
      by_cases e2 : s ≤ j ∧ j < s + k
      · rw [if_pos e2, if_pos (by omega)]
      · rw [if_neg e2, if_neg (by omega)]

theorem of_new (k : Nat) : Of k (newR k) (List.replicate k 0) := by
  refine ⟨by simp, fun r hr j h1 h2 => ?_⟩
  unfold newR at hr
  split at hr
  · cases hr
  · simp only [List.mem_singleton] at hr
    subst hr
    simp only [ofAt, rv, List.getD, List.getElem?_replicate]
    split <;> rfl

theorem take_sep {P : Nat} {A B : List Rn} {x : Rn} (h : Inv P (A ++ (x :: B))) : (∀ r ∈ A, r.s + r.n ≤ x.s) ∧ ∀ r ∈ B, x.s + x.n ≤ r.s := by
  have ht := h.tl
  rw [Tl_append] at ht
  obtain ⟨hA, hx, _, _, hB⟩ := ht
  exact ⟨fun r hr => by have := mem_endAt hA r hr; omega, fun r hr => by have := mem_endAt hB r hr; omega⟩

theorem of_take {P : Nat} {A B : List Rn} {x : Rn} {O : List Int} {n : Nat} (hI : Inv P (A ++ (x :: B))) (hO : Of P (A ++ (x :: B)) O) (hu : x.u = false) (hn : n ≤ x.n) : Of P (takeL (A ++ (x :: B)) A.length n) (fill O x.s ((x.s : Int) + 1) n) := by
  have hm := hI.mem x (by simp)
  have hl := hO.len
  obtain ⟨hA, hB⟩ := take_sep hI
  refine ⟨by rw [fill_len]; exact hl, ?_⟩
  rw [takeL_eq]
  intro r hr j h1 h2
  rw [fill_at _ n (by omega)]
  rcases List.mem_append.1 hr with hr | hr
  · rw [if_neg (by have := hA r hr; omega)]
    exact hO.val r (by simp [hr]) j h1 h2
  · rcases List.mem_cons.1 hr with rfl | hr
    · rw [if_pos ⟨h1, h2⟩]; rfl
    · rcases List.mem_append.1 hr with hr | hr
      · split at hr
        · simp only [List.mem_singleton] at hr
          subst hr
          simp only at h1 h2
          rw [if_neg (by omega)]
          rw [hO.val x (by simp) j (by omega) (by omega)]
          simp [rv, hu]
        · cases hr
      · rw [if_neg (by have := hB r hr; omega)]
        exact hO.val r (by simp [hr]) j h1 h2

theorem mem_at {L : List Rn} {r : Rn} (h : r ∈ L) : ∃ k, k < L.length ∧ r = rnAt L k := by
  obtain ⟨k, hk, e⟩ := List.mem_iff_getElem.1 h
  exact ⟨k, hk, by simp [rnAt, List.getD, hk, e]⟩

theorem endAt_take_le {L : List Rn} {j k : Nat} (h : j ≤ k) : endAt 0 (L.take j) ≤ endAt 0 (L.take k) := by
  obtain ⟨d, rfl⟩ := Nat.exists_eq_add_of_le h
  have e : L.take (j + d) = L.take j ++ (L.drop j).take d := List.take_add ..
  rw [e, endAt_append]
  exact le_endAt _ _

theorem of_rel {P : Nat} {L : List Rn} {O : List Int} (hI : Inv P L) (hO : Of P L O) {i : Nat} (hi : i < L.length) : Of P (relL L i) (fill O (rnAt L i).s 0 (rnAt L i).n) := by
  have hx := rnAt_mem hi
  have hm := hI.mem _ hx
  have hl := hO.len
  have hI' := inv_rel hI hi
  refine ⟨by rw [fill_len]; exact hl, ?_⟩
  intro r hr j h1 h2
  have hm' := hI'.mem r hr
  rw [fill_at _ _ (by omega)]
  have hz : ∀ y, y ∈ L → y.s ≤ j → j < y.s + y.n → y.u = false ∨ y = rnAt L i → (if (rnAt L i).s ≤ j ∧ j < (rnAt L i).s + (rnAt L i).n then (0 : Int) else ofAt O j) = 0 := by
    intro y hy h3 h4 h5
    split
    · rfl
    · rename_i hn
      rcases h5 with h5 | rfl
      · rw [hO.val y hy j h3 h4]; simp [rv, h5]
      · exact absurd ⟨h3, h4⟩ hn
  have hold : ∀ k, k < L.length → k ≠ i → r = rnAt L k → (if (rnAt L i).s ≤ j ∧ j < (rnAt L i).s + (rnAt L i).n then (0 : Int) else ofAt O j) = rv r := by
    intro k hk hne e
    rw [if_neg]
    · exact hO.val r (by rw [e]; exact rnAt_mem hk) j h1 h2
    · rintro ⟨h3, h4⟩
      have hb := Tl_at hI.tl hk
      have ha := Tl_at hI.tl hi
      rw [e] at h1 h2
      rcases Nat.lt_or_gt_of_ne hne with hlt | hgt
      · have h5 : endAt 0 (L.take (k + 1)) ≤ endAt 0 (L.take i) := endAt_take_le (by omega)
        rw [List.take_add_one, rnAt_get hk, endAt_append] at h5
        simp only [Option.toList, endAt] at h5
        omega
      · have h5 : endAt 0 (L.take (i + 1)) ≤ endAt 0 (L.take k) := endAt_take_le (by omega)
        rw [List.take_add_one, rnAt_get hi, endAt_append] at h5
        simp only [Option.toList, endAt] at h5
        omega
  have hF := relF_le L i
  have hE := relE_gt L i
  unfold relL at hr
  rcases List.mem_append.1 hr with hr2 | hr2
  · rcases List.mem_append.1 hr2 with hr3 | hr3
    · obtain ⟨k, hk, e⟩ := List.mem_iff_getElem.1 hr3
      rw [List.length_take] at hk
      refine hold k (by omega) (by omega) ?_
      rw [← e, List.getElem_take]
      simp [rnAt, List.getD, show k < L.length by omega]
    · simp only [List.mem_singleton] at hr3
      subst hr3
      rw [show rv (relJ L i) = 0 by simp [rv, relJ]]
      obtain ⟨y, hy, h3, h4⟩ := hI.at_ (j := j) (by omega)
      refine hz y hy h3 h4 ?_
      obtain ⟨k, hk, rfl⟩ := mem_at hy
      have hyk := Tl_at hI.tl hk
      have sep := take_sep (P := P) (A := L.take (relF L i)) (x := relJ L i) (B := L.drop (relE L i)) (by
        have := hI'; unfold relL at this; simpa using this)
      have hk1 : ¬ k < relF L i := fun hq => by
        have := sep.1 (rnAt L k) (by rw [List.mem_iff_getElem]; exact ⟨k, by simp; omega, by simp [rnAt, List.getD, hk]⟩)
        omega
      have hk2 : ¬ relE L i ≤ k := fun hq => by
        have := sep.2 (rnAt L k) (by rw [List.mem_iff_getElem]; exact ⟨k - relE L i, by simp; omega, by simp [rnAt, List.getD, hk, show relE L i + (k - relE L i) = k by omega]⟩)
        omega
      by_cases hki : k = i
      · exact .inr (by rw [hki])
      · left
        unfold relF at hk1
        unfold relE at hk2
        split at hk1
        · rename_i hq
          split at hk2
          · rename_i hq2
            rcases Nat.lt_or_gt_of_ne hki with h | h
            · rw [show k = i - 1 by omega]; exact hq.2
            · rw [show k = i + 1 by omega]; exact hq2.2
          · rw [show k = i - 1 by omega]; exact hq.2
        · split at hk2
          · rename_i hq2
            rw [show k = i + 1 by omega]; exact hq2.2
          · omega
  · obtain ⟨k, hk, e⟩ := List.mem_iff_getElem.1 hr2
    rw [List.length_drop] at hk
    refine hold (relE L i + k) (by omega) (by omega) ?_
    rw [← e, List.getElem_drop]
    simp [rnAt, List.getD, show relE L i + k < L.length by omega]

/-! ### the largest -/

theorem big_ge {L : List Rn} {r : Rn} (hr : r ∈ L) (hu : r.u = false) : r.n ≤ big L := by
  have key : ∀ (L : List Rn) (m : Nat), m ≤ L.foldl (fun m r => if r.u then m else max m r.n) m ∧ ∀ r ∈ L, r.u = false → r.n ≤ L.foldl (fun m r => if r.u then m else max m r.n) m := by
    intro L
    induction L with
    | nil => intro m; exact ⟨Nat.le_refl _, fun r hr => by cases hr⟩
    | cons q L ih =>
      intro m
      rw [List.foldl_cons]
      have h1 := ih (if q.u then m else max m q.n)
      refine ⟨Nat.le_trans (by split <;> omega) h1.1, fun r hr hu => ?_⟩
      rcases List.mem_cons.1 hr with rfl | hr
      · refine Nat.le_trans ?_ h1.1
        rw [hu]; simp; omega
      · exact h1.2 r hr hu
  exact (key L 0).2 r hr hu
theorem big_le {L : List Rn} {m : Nat} (h : ∀ r ∈ L, r.u = false → r.n ≤ m) : big L ≤ m := by
  have key : ∀ (L : List Rn) (k : Nat), k ≤ m → (∀ r ∈ L, r.u = false → r.n ≤ m) → L.foldl (fun m r => if r.u then m else max m r.n) k ≤ m := by
    intro L
    induction L with
    | nil => intro k hk _; exact hk
    | cons q L ih =>
      intro k hk h
      rw [List.foldl_cons]
      refine ih _ ?_ (fun r hr => h r (by simp [hr]))
      have := h q (by simp)
      cases hu : q.u
      · have := this hu; simp; omega
      · simpa using hk
  exact key L 0 (Nat.zero_le _) h

end Go.Proofs.Ytkdgekdacinlhaa
