/-
  Plain facts on lists of runs that tile their pages; no statement is proved here.
-/
import Derived.Test.YtlajjcboahflbaaDoorCalls
namespace Go.Proofs.YtlajjcboahflbaaDoor

/-- Runs side by side from page a on, no two free ones beside each other; pf: a free one stands ahead. -/
def Tl (pf : Bool) (a : Nat) : List Rn → Prop
  | [] => True
  | r :: L => r.s = a ∧ 1 ≤ r.n ∧ (pf = true → r.u = true) ∧ Tl (!r.u) (a + r.n) L
/-- Is the last one free? -/
def lf (pf : Bool) : List Rn → Bool
  | [] => pf
  | r :: L => lf (!r.u) L
/-- Where they end. -/
def endAt (a : Nat) : List Rn → Nat
  | [] => a
  | r :: L => endAt (a + r.n) L

theorem Tl_append {pf : Bool} {a : Nat} {A B : List Rn} : Tl pf a (A ++ B) ↔ Tl pf a A ∧ Tl (lf pf A) (endAt a A) B := by
  induction A generalizing pf a with
  | nil => simp [Tl, lf, endAt]
  | cons r A ih => simp only [List.cons_append, Tl, lf, endAt, ih]; constructor <;> (intro h; simp_all)
theorem endAt_append {a : Nat} {A B : List Rn} : endAt a (A ++ B) = endAt (endAt a A) B := by
  induction A generalizing a with
  | nil => rfl
  | cons r A ih => simp [endAt, ih]
theorem lf_append {pf : Bool} {A B : List Rn} : lf pf (A ++ B) = lf (lf pf A) B := by
  induction A generalizing pf with
  | nil => rfl
  | cons r A ih => simp [lf, ih]
theorem Tl_weak {a : Nat} {L : List Rn} (pf : Bool) (h : Tl true a L) : Tl pf a L := by
  cases L with
  | nil => trivial
  | cons r L => exact ⟨h.1, h.2.1, fun _ => h.2.2.1 rfl, h.2.2.2⟩
theorem Tl_strong {a : Nat} {L : List Rn} {pf : Bool} (h : Tl pf a L) (h0 : ∀ r, L.head? = some r → r.u = true) : Tl true a L := by
  cases L with
  | nil => trivial
  | cons r L => exact ⟨h.1, h.2.1, fun _ => h0 r rfl, h.2.2.2⟩
theorem le_endAt (a : Nat) (L : List Rn) : a ≤ endAt a L := by
  induction L generalizing a with
  | nil => exact Nat.le_refl _
  | cons r L ih => have := ih (a + r.n); simp only [endAt]; omega
theorem endAt_add (a b : Nat) (L : List Rn) : endAt (a + b) L = a + endAt b L := by
  induction L generalizing b with
  | nil => rfl
  | cons r L ih => simp only [endAt]; rw [Nat.add_assoc, ih]
theorem len_endAt {pf : Bool} {a : Nat} {L : List Rn} (h : Tl pf a L) : a + L.length ≤ endAt a L := by
  induction L generalizing a pf with
  | nil => exact Nat.le_refl _
  | cons r L ih => have := ih h.2.2.2; have := h.2.1; simp only [endAt, List.length_cons]; omega
theorem mem_endAt {pf : Bool} {a : Nat} {L : List Rn} (h : Tl pf a L) : ∀ r ∈ L, a ≤ r.s ∧ 1 ≤ r.n ∧ r.s + r.n ≤ endAt a L := by
  induction L generalizing a pf with
  | nil => simp
  | cons r L ih =>
    intro x hx
    rcases List.mem_cons.1 hx with rfl | hx
    · have := le_endAt (a + x.n) L
      exact ⟨by have := h.1; omega, h.2.1, by have := h.1; simp only [endAt]; omega⟩
    · have := ih h.2.2.2 x hx
      simp only [endAt]
      omega

theorem split_at (L : List Rn) (i : Nat) (h : i < L.length) : L = L.take i ++ (rnAt L i :: L.drop (i + 1)) := by
  have h1 : L.drop i = rnAt L i :: L.drop (i + 1) := by
    rw [List.drop_eq_getElem_cons h]
    simp [rnAt, List.getD, h]
  rw [← h1, List.take_append_drop]

/-- What holds of pages. -/
structure Inv (P : Nat) (L : List Rn) : Prop where
  tl : Tl false 0 L
  end_ : endAt 0 L = P
  le : P ≤ 1024

theorem Inv.len {P : Nat} {L : List Rn} (h : Inv P L) : L.length ≤ P := by
  have := len_endAt h.tl
  rw [h.end_] at this
  omega
theorem Inv.mem {P : Nat} {L : List Rn} (h : Inv P L) : ∀ r ∈ L, 1 ≤ r.n ∧ r.s + r.n ≤ P := by
  intro r hr
  have := mem_endAt h.tl r hr
  rw [h.end_] at this
  omega

theorem sumTo_endAt (L : List Rn) : ∀ k a, k ≤ L.length → a + sumTo L k = endAt a (L.take k)
  | 0, a, _ => by simp [sumTo, endAt]
  | k + 1, a, h => by
    have ih := sumTo_endAt L k a (by omega)
    rw [sumTo, List.take_add_one, rnAt_get (by omega), endAt_append, ← ih]
    simp [endAt]; omega
theorem Inv.few {P : Nat} {L : List Rn} (h : Inv P L) : Few L := by
  intro k hk f hf
  have h1 := sumTo_endAt (L.drop f) (k - f) 0 (by simp; omega)
  have h2 : endAt 0 L = endAt (endAt (endAt 0 (L.take f)) ((L.drop f).take (k - f))) ((L.drop f).drop (k - f)) := by
    rw [← endAt_append, ← endAt_append, List.take_append_drop, List.take_append_drop]
  have h3 := le_endAt (endAt (endAt 0 (L.take f)) ((L.drop f).take (k - f))) ((L.drop f).drop (k - f))
  have h4 := endAt_add (endAt 0 (L.take f)) 0 ((L.drop f).take (k - f))
  rw [Nat.add_zero] at h4
  have := h.end_
  have := h.le
  omega

/-- The runs of new pages. -/
def newR (k : Nat) : List Rn := if k = 0 then [] else [⟨0, k, false⟩]

theorem inv_new (k : Nat) (h : k ≤ 1024) : Inv k (newR k) := by
  unfold newR
  split
  · subst k; exact ⟨trivial, rfl, h⟩
  · exact ⟨⟨rfl, by show 1 ≤ k; omega, by simp, trivial⟩, by simp [endAt], h⟩

/-! ### taking -/

theorem rnAt_eq {L : List Rn} {i : Nat} {A B : List Rn} {x : Rn} (h : L = A ++ (x :: B)) (hi : A.length = i) : rnAt L i = x := by
  subst h hi
  simp [rnAt, List.getD]

theorem takeL_eq (A B : List Rn) (x : Rn) (n : Nat) : takeL (A ++ (x :: B)) A.length n = A ++ (⟨x.s, n, true⟩ :: ((if n < x.n then [⟨x.s + n, x.n - n, false⟩] else []) ++ B)) := by
  have hx : rnAt (A ++ (x :: B)) A.length = x := rnAt_eq rfl rfl
  unfold takeL
  rw [hx, List.take_left, show A ++ x :: B = (A ++ [x]) ++ B by simp, List.drop_left' (by simp)]
  simp

theorem inv_take {P : Nat} {A B : List Rn} {x : Rn} {n : Nat} (h : Inv P (A ++ (x :: B))) (hu : x.u = false) (h1 : 1 ≤ n) (hn : n ≤ x.n) : Inv P (takeL (A ++ (x :: B)) A.length n) := by
  obtain ⟨ht, he, hl⟩ := h
  rw [takeL_eq]
  rw [Tl_append] at ht
  obtain ⟨hA, hx, hxn, _, hB⟩ := ht
  rw [hu] at hB
  refine ⟨?_, ?_, hl⟩
  · rw [Tl_append]
    refine ⟨hA, hx, h1, fun _ => rfl, ?_⟩
    simp only [Bool.not_true]
    split
    · refine ⟨by simp only; omega, by simp only; omega, by simp, ?_⟩
      simp only [Bool.not_false]
      rw [show endAt 0 A + n + (x.n - n) = endAt 0 A + x.n by omega]
      exact hB
    · rw [List.nil_append, show n = x.n by omega]
      exact Tl_weak _ hB
  · rw [endAt_append] at he ⊢
    simp only [endAt] at he ⊢
    split
    · simp only [List.singleton_append, endAt]
      rw [show endAt 0 A + n + (x.n - n) = endAt 0 A + x.n by omega]
      exact he
    · rw [List.nil_append, show n = x.n by omega]
      exact he

/-! ### giving back -/

theorem lf_take (pf : Bool) (L : List Rn) (k : Nat) (h : k < L.length) : lf pf (L.take (k + 1)) = !(rnAt L k).u := by
  rw [List.take_add_one, rnAt_get h, lf_append]; rfl

theorem Tl_at {L : List Rn} (h : Tl false 0 L) {k : Nat} (hk : k < L.length) : (rnAt L k).s = endAt 0 (L.take k) ∧ 1 ≤ (rnAt L k).n ∧ (lf false (L.take k) = true → (rnAt L k).u = true) ∧ Tl (!(rnAt L k).u) (endAt 0 (L.take k) + (rnAt L k).n) (L.drop (k + 1)) := by
  have h2 := h
  rw [split_at L k hk, Tl_append] at h2
  exact h2.2

theorem inv_rel {P : Nat} {L : List Rn} (h : Inv P L) {i : Nat} (hi : i < L.length) : Inv P (relL L i) := by
  obtain ⟨ht, he, hl⟩ := h
  have hf := relF_le L i
  have hg := relE_gt L i
  have hE := relE_le L i hi
  have hs := sumTo_endAt (L.drop (relF L i)) (relE L i - relF L i) (endAt 0 (L.take (relF L i))) (by simp; omega)
  have hS : 1 ≤ sumTo (L.drop (relF L i)) (relE L i - relF L i) := by
    obtain ⟨d, hd⟩ : ∃ d, relE L i - relF L i = d + 1 := ⟨relE L i - relF L i - 1, by omega⟩
    rw [hd]
    have : ∀ d, 1 ≤ sumTo (L.drop (relF L i)) (d + 1) := by
      intro d
      induction d with
      | zero =>
        have := (Tl_at ht (k := relF L i) (by omega)).2.1
        rw [sumTo, sumTo, rnAt_drop, Nat.add_zero]; omega
      | succ d ih => rw [sumTo]; omega
    exact this d
  have hM : endAt (endAt 0 (L.take (relF L i))) ((L.drop (relF L i)).take (relE L i - relF L i)) = endAt 0 (L.take (relE L i)) := by
    rw [← endAt_append]
    congr 1
    conv => rhs; rw [show relE L i = relF L i + (relE L i - relF L i) by omega, List.take_add]
  have hfl : lf false (L.take (relF L i)) = false := by
    by_cases hc : 0 < i ∧ (rnAt L (i - 1)).u = false
    · have e : relF L i = i - 1 := by unfold relF; rw [if_pos hc]
      rw [e]
      have := (Tl_at ht (k := i - 1) (by omega)).2.2.1
      cases hq : lf false (L.take (i - 1))
      · rfl
      · have := this hq; rw [hc.2] at this; cases this
    · have e : relF L i = i := by unfold relF; rw [if_neg hc]
      rw [e]
      by_cases h0 : i = 0
      · subst h0; rfl
      · obtain ⟨k, rfl⟩ : ∃ k, i = k + 1 := ⟨i - 1, by omega⟩
        rw [lf_take false L k (by omega)]
        cases hu : (rnAt L k).u
        · exact absurd ⟨by omega, by simpa using hu⟩ hc
        · rfl
  have hB : Tl true (endAt 0 (L.take (relE L i))) (L.drop (relE L i)) := by
    have h2 := ht
    rw [← List.take_append_drop (relE L i) L, Tl_append] at h2
    have h3 := h2.2
    by_cases hc : i + 1 < L.length ∧ (rnAt L (i + 1)).u = false
    · have e : relE L i = i + 1 + 1 := by unfold relE; rw [if_pos hc]
      rw [e, lf_take false L (i + 1) hc.1, hc.2] at h3
      rw [e]
      exact h3
    · have e : relE L i = i + 1 := by unfold relE; rw [if_neg hc]
      refine Tl_strong h3 (fun r hr => ?_)
      rw [e] at hr
      by_cases h1 : i + 1 < L.length
      · rw [List.head?_drop, rnAt_get h1] at hr
        cases hr
        cases hu : (rnAt L (i + 1)).u
        · exact absurd ⟨h1, hu⟩ hc
        · rfl
      · rw [List.head?_drop, List.getElem?_eq_none (by omega)] at hr
        cases hr
  have hsE : endAt 0 (L.take (relF L i)) + sumTo (L.drop (relF L i)) (relE L i - relF L i) = endAt 0 (L.take (relE L i)) := hs.trans hM
  refine ⟨?_, ?_, hl⟩
  · unfold relL relJ
    rw [Tl_append, Tl_append, lf_append, endAt_append]
    have h2 := ht
    rw [← List.take_append_drop (relF L i) L, Tl_append] at h2
    refine ⟨⟨h2.1, (Tl_at ht (k := relF L i) (by omega)).1, hS, by rw [hfl]; simp, trivial⟩, ?_⟩
    simp only [lf, endAt, Bool.not_false]
    rw [hsE]
    exact hB
  · unfold relL relJ
    rw [endAt_append, endAt_append]
    simp only [endAt]
    rw [hsE, ← endAt_append, List.take_append_drop]
    exact he

/-! ### there and back -/

theorem back_take {P : Nat} {A B : List Rn} {x : Rn} {n : Nat} (h : Inv P (A ++ (x :: B))) (hu : x.u = false) (hn : n ≤ x.n) : relL (takeL (A ++ (x :: B)) A.length n) A.length = A ++ (x :: B) := by
  have ht := h.tl
  rw [Tl_append] at ht
  obtain ⟨_, hx, _, hp, hB⟩ := ht
  rw [takeL_eq]
  have hF : ∀ (y : Rn) (C : List Rn), relF (A ++ (y :: C)) A.length = A.length := by
    intro y C
    unfold relF
    rw [if_neg]
    rintro ⟨h0, h1⟩
    obtain ⟨k, hk⟩ : ∃ k, A.length = k + 1 := ⟨A.length - 1, by omega⟩
    have e : rnAt (A ++ (y :: C)) (A.length - 1) = rnAt A k := by
      rw [hk, Nat.add_sub_cancel]
      simp only [rnAt, List.getD]
      rw [List.getElem?_append_left (by omega)]
    rw [e] at h1
    have h2 := lf_take false A k (by omega)
    rw [List.take_of_length_le (by omega), h1] at h2
    have := hp h2
    rw [hu] at this
    cases this
  have hJ : ∀ (y : Rn) (C : List Rn), rnAt (A ++ (y :: C)) A.length = y := fun y C => rnAt_eq rfl rfl
  unfold relL relJ
  rw [hF, hJ, List.take_left, List.drop_left]
  split
  · rename_i hlt
    have e1 : relE (A ++ (⟨x.s, n, true⟩ :: ([⟨x.s + n, x.n - n, false⟩] ++ B))) A.length = A.length + 2 := by
      unfold relE
      rw [if_pos]
      refine ⟨by simp, ?_⟩
      rw [show A ++ (⟨x.s, n, true⟩ :: ([⟨x.s + n, x.n - n, false⟩] ++ B)) = (A ++ [⟨x.s, n, true⟩]) ++ (⟨x.s + n, x.n - n, false⟩ :: B) by simp, rnAt_eq rfl (by simp)]
    rw [e1, show A.length + 2 - A.length = 2 by omega]
    rw [show A ++ (⟨x.s, n, true⟩ :: ([⟨x.s + n, x.n - n, false⟩] ++ B)) = (A ++ [⟨x.s, n, true⟩, ⟨x.s + n, x.n - n, false⟩]) ++ B by simp, List.drop_left' (by simp)]
    simp only [sumTo, rnAt, List.getD]
    simp
    cases x
    simp at hu hlt ⊢
    exact ⟨by omega, hu⟩
  · rename_i hlt
    obtain rfl : n = x.n := by omega
    rw [hu] at hB
    have e1 : relE (A ++ (⟨x.s, x.n, true⟩ :: ([] ++ B))) A.length = A.length + 1 := by
      unfold relE
      rw [if_neg]
      rintro ⟨h1, h2⟩
      cases B with
      | nil => simp at h1
      | cons z B =>
        rw [show A ++ (⟨x.s, x.n, true⟩ :: ([] ++ z :: B)) = (A ++ [⟨x.s, x.n, true⟩]) ++ (z :: B) by simp, rnAt_eq rfl (by simp)] at h2
        have := hB.2.2.1 rfl
        rw [h2] at this
        cases this
    rw [e1, show A.length + 1 - A.length = 1 by omega]
    rw [show A ++ (⟨x.s, x.n, true⟩ :: ([] ++ B)) = (A ++ [⟨x.s, x.n, true⟩]) ++ B by simp, List.drop_left' (by simp)]
    simp only [sumTo, rnAt, List.getD]
    simp
    cases x
    simp at hu ⊢
    exact hu

end Go.Proofs.YtlajjcboahflbaaDoor
