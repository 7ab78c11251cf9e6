/-
  Plain facts on ways: which come first, and what a search by their length gives; no statement is proved here.
-/
import Derived.Test.YtfjabjnajcfamaaMath
namespace Go.Proofs.Ytfjabjnajcfamaa

/-! ### which way comes first -/

/-- Of two lists of one length: the first number that differs is the lesser. -/
def lx : List Nat → List Nat → Prop
  | a :: u, b :: v => a < b ∨ (a = b ∧ lx u v)
  | _, _ => False

theorem lx_irrefl : ∀ u, ¬ lx u u
  | [], h => h
  | a :: u, h => by
    rcases h with h | ⟨_, h⟩
    · omega
    · exact lx_irrefl u h
theorem lx_trans : ∀ {u v x : List Nat}, lx u v → lx v x → lx u x
  | a :: u, b :: v, c :: x, h, k => by
    rcases h with h | ⟨h1, h2⟩ <;> rcases k with k | ⟨k1, k2⟩
    · exact .inl (by omega)
    · exact .inl (by omega)
    · exact .inl (by omega)
    · exact .inr ⟨by omega, lx_trans h2 k2⟩
  | [], _, _, h, _ => h.elim
  | _ :: _, [], _, h, _ => h.elim
  | _ :: _, _ :: _, [], _, k => k.elim
theorem lx_total : ∀ {u v : List Nat}, u.length = v.length → lx u v ∨ u = v ∨ lx v u
  | [], [], _ => .inr (.inl rfl)
  | [], _ :: _, h => by simp at h
  | _ :: _, [], h => by simp at h
  | a :: u, b :: v, h => by
    rcases Nat.lt_trichotomy a b with q | rfl | q
    · exact .inl (.inl q)
    · rcases lx_total (u := u) (v := v) (by simpa using h) with q | rfl | q
      · exact .inl (.inr ⟨rfl, q⟩)
      · exact .inr (.inl rfl)
      · exact .inr (.inr (.inr ⟨rfl, q⟩))
    · exact .inr (.inr (.inl q))
theorem lx_snoc : ∀ {u v : List Nat} (a b : Nat), lx u v → lx (u ++ [a]) (v ++ [b])
  | c :: u, d :: v, a, b, h => by
    rcases h with h | ⟨h1, h2⟩
    · exact .inl h
    · exact .inr ⟨h1, lx_snoc a b h2⟩
  | [], _, _, _, h => h.elim
  | _ :: _, [], _, _, h => h.elim
theorem lx_last : ∀ (u : List Nat) {a b : Nat}, a < b → lx (u ++ [a]) (u ++ [b])
  | [], _, _, h => .inl h
  | _ :: u, _, _, h => .inr ⟨rfl, lx_last u h⟩

def wlt (u v : List Nat) : Prop := u.length < v.length ∨ (u.length = v.length ∧ lx u v)
def wle (u v : List Nat) : Prop := u = v ∨ wlt u v

theorem wlt_irrefl (u : List Nat) : ¬ wlt u u := fun h => by
  rcases h with h | ⟨_, h⟩
  · omega
  · exact lx_irrefl u h
theorem wlt_trans {u v x : List Nat} (h : wlt u v) (k : wlt v x) : wlt u x := by
  rcases h with h | ⟨h1, h2⟩ <;> rcases k with k | ⟨k1, k2⟩
  · exact .inl (by omega)
  · exact .inl (by omega)
  · exact .inl (by omega)
  · exact .inr ⟨by omega, lx_trans h2 k2⟩
theorem wle_trans {u v x : List Nat} (h : wle u v) (k : wle v x) : wle u x := by
  rcases h with rfl | h
  · exact k
  · rcases k with rfl | k
    · exact .inr h
    · exact .inr (wlt_trans h k)
theorem wle_antisymm {u v : List Nat} (h : wle u v) (k : wle v u) : u = v := by
  rcases h with rfl | h
  · rfl
  · rcases k with rfl | k
    · rfl
    · exact (wlt_irrefl _ (wlt_trans h k)).elim
theorem wle_len {u v : List Nat} (h : wle u v) : u.length ≤ v.length := by
  rcases h with rfl | h | ⟨h, _⟩
  · exact Nat.le_refl _
  · omega
  · omega
theorem wlt_snoc {u v : List Nat} (a b : Nat) (h : wlt u v) : wlt (u ++ [a]) (v ++ [b]) := by
  rcases h with h | ⟨h1, h2⟩
  · exact .inl (by simp; omega)
  · exact .inr ⟨by simp; omega, lx_snoc a b h2⟩
theorem wle_snoc {u v : List Nat} (a : Nat) (h : wle u v) : wle (u ++ [a]) (v ++ [a]) := by
  rcases h with rfl | h
  · exact .inl rfl
  · exact .inr (wlt_snoc a a h)
theorem wlt_last (u : List Nat) {a b : Nat} (h : a < b) : wlt (u ++ [a]) (u ++ [b]) := .inr ⟨by simp, lx_last u h⟩

/-! ### ways -/

/-- A way from a root to a node. -/
inductive Wy (N : List (List Nat)) (R : List Nat) : List Nat → Nat → Prop
  | root {x : Nat} : x ∈ R → Wy N R [x] x
  | step {u : List Nat} {x y : Nat} : Wy N R u x → y ∈ nxt N x → Wy N R (u ++ [y]) y

theorem Wy.pos {N : List (List Nat)} {R u : List Nat} {x : Nat} (h : Wy N R u x) : 0 < u.length := by cases h <;> simp
theorem Wy.rch {N : List (List Nat)} {R u : List Nat} {x : Nat} (h : Wy N R u x) : Rch N R (-1) x := by
  induction h with
  | root h => exact .root h (by omega)
  | step _ h ih => exact .step ih h (by omega)
theorem Rch.wy {N : List (List Nat)} {R : List Nat} {x : Nat} (h : Rch N R (-1) x) : ∃ u, Wy N R u x := by
  induction h with
  | root h _ => exact ⟨_, .root h⟩
  | step _ h _ ih => obtain ⟨u, hu⟩ := ih; exact ⟨_, .step hu h⟩

/-- What 'ahead' says of a way: each node's is the one before, the first one's itself. -/
inductive Ch (A : List Int) : List Nat → Nat → Prop
  | root {x : Nat} : A[x]? = some (x : Int) → Ch A [x] x
  | step {u : List Nat} {x y : Nat} : Ch A u x → A[y]? = some (x : Int) → x ≠ y → Ch A (u ++ [y]) y

/-- The node at a place of the line. -/
def qa (Q : List Nat) (i : Nat) : Nat := Q.getD i 0
theorem qa_mem {Q : List Nat} {i : Nat} (h : i < Q.length) : qa Q i ∈ Q := by simp [qa, h]
theorem mem_qa {Q : List Nat} {x : Nat} (h : x ∈ Q) : ∃ i, i < Q.length ∧ qa Q i = x := by
  obtain ⟨i, hi, rfl⟩ := List.mem_iff_getElem.1 h
  exact ⟨i, hi, by simp [qa, hi]⟩
theorem qa_left {Q D : List Nat} {i : Nat} (h : i < Q.length) : qa (Q ++ D) i = qa Q i := by simp [qa, List.getD, List.getElem?_append_left h]
theorem qa_right {Q D : List Nat} {i : Nat} (h : Q.length ≤ i) : qa (Q ++ D) i = qa D (i - Q.length) := by simp [qa, List.getD, List.getElem?_append_right h]
theorem qa_inj {Q : List Nat} (h : Q.Nodup) {i j : Nat} (hi : i < Q.length) (hj : j < Q.length) (e : qa Q i = qa Q j) : i = j := by
  have h1 : Q[i] = Q[j] := by simpa [qa, hi, hj] using e
  exact (List.getElem_inj h).1 h1

/-- A search by the ways' length: the nodes ahead of place t are done. -/
structure Bf (N : List (List Nat)) (R : List Nat) (A : List Int) (Q : List Nat) (t : Nat) (W : Nat → List Nat) : Prop where
  len : A.length = N.length
  once : Q.Nodup
  lt : ∀ x ∈ Q, x < N.length
  out : ∀ x, x < N.length → x ∉ Q → A[x]? = some (-1)
  roots : ∀ r ∈ R, r ∈ Q
  src : ∀ i, i < Q.length → (qa Q i ∈ R ∧ W (qa Q i) = [qa Q i] ∧ A[qa Q i]? = some ((qa Q i : Nat) : Int)) ∨ ∃ j, j < i ∧ j < t ∧ qa Q i ∈ nxt N (qa Q j) ∧ W (qa Q i) = W (qa Q j) ++ [qa Q i] ∧ A[qa Q i]? = some ((qa Q j : Nat) : Int)
  inc : ∀ i j, i < j → j < Q.length → wlt (W (qa Q i)) (W (qa Q j))
  clos : ∀ i, i < t → i < Q.length → ∀ y ∈ nxt N (qa Q i), y ∈ Q
  min : ∀ x ∈ Q, ∀ u, Wy N R u x → wle (W x) u

theorem Bf.up {N : List (List Nat)} {R : List Nat} {A : List Int} {Q : List Nat} {t : Nat} {W : Nat → List Nat} (h : Bf N R A Q t W) {i j : Nat} (hij : i ≤ j) (hj : j < Q.length) : wle (W (qa Q i)) (W (qa Q j)) := by
  by_cases e : i = j
  · subst e; exact .inl rfl
  · exact .inr (h.inc i j (by omega) hj)

/-- Every way to a node that has not come is longer than that of the next node. -/
theorem Bf.far {N : List (List Nat)} {R : List Nat} {A : List Int} {Q : List Nat} {t : Nat} {W : Nat → List Nat} (h : Bf N R A Q t W) (_ht : t < Q.length) {u : List Nat} {z : Nat} (hu : Wy N R u z) : z ∉ Q → (W (qa Q t)).length < u.length := by
  induction hu with
  | root hr => exact fun hz => absurd (h.roots _ hr) hz
  | @step u' q y hu' hy ih =>
    intro hz
    by_cases hq : q ∈ Q
    · obtain ⟨i, hi, rfl⟩ := mem_qa hq
      by_cases hit : i < t
      · exact absurd (h.clos i hit hi _ hy) hz
      · have := wle_len (wle_trans (h.up (i := t) (j := i) (by omega) hi) (h.min _ hq u' hu'))
        simp
        omega
    · have := ih hq
      simp
      omega

/-- The first way to a node that the next node names and that has not come. -/
theorem Bf.fresh {N : List (List Nat)} {R : List Nat} {A : List Int} {Q : List Nat} {t : Nat} {W : Nat → List Nat} (h : Bf N R A Q t W) (ht : t < Q.length) {y : Nat} (hy : y ∉ Q) {u : List Nat} (hu : Wy N R u y) : wle (W (qa Q t) ++ [y]) u := by
  cases hu with
  | root hr => exact absurd (h.roots _ hr) hy
  | @step u' q _ hu' hyq =>
    by_cases hq : q ∈ Q
    · obtain ⟨i, hi, rfl⟩ := mem_qa hq
      by_cases hit : i < t
      · exact absurd (h.clos i hit hi _ hyq) hy
      · exact wle_snoc y (wle_trans (h.up (i := t) (j := i) (by omega) hi) (h.min _ hq u' hu'))
    · have := h.far ht hu' hq
      exact .inr (.inl (by simp; omega))

theorem Bf.wy {N : List (List Nat)} {R : List Nat} {A : List Int} {Q : List Nat} {t : Nat} {W : Nat → List Nat} (h : Bf N R A Q t W) : ∀ (m i : Nat), i < m → i < Q.length → Wy N R (W (qa Q i)) (qa Q i)
  | 0, i, hm, _ => by omega
  | m + 1, i, hm, hi => by
    rcases h.src i hi with ⟨h1, h2, _⟩ | ⟨j, h1, _, h2, h3, _⟩
    · rw [h2]; exact .root h1
    · rw [h3]; exact .step (h.wy m j (by omega) (by omega)) h2
theorem Bf.ch {N : List (List Nat)} {R : List Nat} {A A' : List Int} {Q : List Nat} {t : Nat} {W : Nat → List Nat} (h : Bf N R A Q t W) (hA : ∀ x ∈ Q, A'[x]? = A[x]?) : ∀ (m i : Nat), i < m → i < Q.length → Ch A' (W (qa Q i)) (qa Q i)
  | 0, i, hm, _ => by omega
  | m + 1, i, hm, hi => by
    rcases h.src i hi with ⟨_, h2, h4⟩ | ⟨j, h1, _, _, h3, h4⟩
    · rw [h2]; exact .root (by rw [hA _ (qa_mem hi)]; exact h4)
    · rw [h3]
      refine .step (h.ch hA m j (by omega) (by omega)) (by rw [hA _ (qa_mem hi)]; exact h4) (fun e => ?_)
      have := qa_inj h.once (by omega) hi e
      omega

theorem Bf.wlen {N : List (List Nat)} {R : List Nat} {A : List Int} {Q : List Nat} {t : Nat} {W : Nat → List Nat} (h : Bf N R A Q t W) : ∀ (m i : Nat), i < m → i < Q.length → (W (qa Q i)).length ≤ i + 1
  | 0, i, hm, _ => by omega
  | m + 1, i, hm, hi => by
    rcases h.src i hi with ⟨_, h2, _⟩ | ⟨j, h1, _, _, h3, _⟩
    · rw [h2]; simp
    · rw [h3]
      have := h.wlen m j (by omega) (by omega)
      simp
      omega
theorem Bf.qlen {N : List (List Nat)} {R : List Nat} {A : List Int} {Q : List Nat} {t : Nat} {W : Nat → List Nat} (h : Bf N R A Q t W) : Q.length ≤ N.length := nodup_len _ _ h.once h.lt

/-- A way that comes first. -/
structure Best (N : List (List Nat)) (R : List Nat) (tg : Nat) (u : List Nat) : Prop where
  wy : Wy N R u tg
  min : ∀ v, Wy N R v tg → wle u v

theorem Best.det {N : List (List Nat)} {R : List Nat} {tg : Nat} {u v : List Nat} (h : Best N R tg u) (k : Best N R tg v) : u = v := wle_antisymm (h.min v k.wy) (k.min u h.wy)

/-- What a search answers: the first way by what 'ahead' says, or none where there is none. -/
def Found (N : List (List Nat)) (R : List Nat) (tg : Nat) (A : List Int) : Prop :=
  A.length = N.length ∧ ((∃ u, Best N R tg u ∧ Ch A u tg ∧ u.length ≤ N.length + 1) ∨ (A[tg]? = some (-1) ∧ ¬ Rch N R (-1) tg))

/-- The node is named by the next one. -/
theorem Bf.hit {N : List (List Nat)} {R : List Nat} {A A' : List Int} {Q : List Nat} {t : Nat} {W : Nat → List Nat} (h : Bf N R A Q t W) (ht : t < Q.length) {tg : Nat} (hto : tg ∉ Q) (hn : tg ∈ nxt N (qa Q t)) (hl : A'.length = N.length) (hA : ∀ x ∈ Q, A'[x]? = A[x]?) (hA2 : A'[tg]? = some ((qa Q t : Nat) : Int)) : Found N R tg A' := by
  refine ⟨hl, .inl ⟨W (qa Q t) ++ [tg], ⟨.step (h.wy _ t (Nat.lt_succ_self _) ht) hn, fun v hv => h.fresh ht hto hv⟩, .step (h.ch hA _ t (Nat.lt_succ_self _) ht) hA2 (fun e => hto (e ▸ qa_mem ht)), by have := h.wlen _ t (Nat.lt_succ_self _) ht; have := h.qlen; simp; omega⟩⟩

/-- All nodes are done. -/
theorem Bf.done {N : List (List Nat)} {R : List Nat} {A : List Int} {Q : List Nat} {t : Nat} {W : Nat → List Nat} (h : Bf N R A Q t W) (ht : Q.length ≤ t) {tg : Nat} (hto : tg < N.length) : Found N R tg A := by
  refine ⟨h.len, ?_⟩
  by_cases hq : tg ∈ Q
  · obtain ⟨i, hi, rfl⟩ := mem_qa hq
    exact .inl ⟨_, ⟨h.wy _ i (Nat.lt_succ_self _) hi, fun v hv => h.min _ hq v hv⟩, h.ch (fun _ _ => rfl) _ i (Nat.lt_succ_self _) hi, by have := h.wlen _ i (Nat.lt_succ_self _) hi; have := h.qlen; omega⟩
  · refine .inr ⟨h.out _ hto hq, fun hr => hq ?_⟩
    refine hr.least (· ∈ Q) (fun r hr _ => h.roots r hr) (fun a ha b hb _ => ?_)
    obtain ⟨i, hi, rfl⟩ := mem_qa ha
    exact h.clos i (by omega) hi b hb

/-- The next node is done: what it names that had not come stands behind the line, rising. -/
theorem Bf.next {N : List (List Nat)} {R : List Nat} {A A' : List Int} {Q : List Nat} {t : Nat} {W : Nat → List Nat} (hN : Net N) (h : Bf N R A Q t W) (ht : t < Q.length) {D : List Nat} (hl : A'.length = N.length)
    (hD : ∀ i j, i < j → j < D.length → qa D i < qa D j) (hD2 : ∀ y ∈ D, y ∉ Q ∧ y ∈ nxt N (qa Q t)) (hD3 : ∀ y ∈ nxt N (qa Q t), y ∈ Q ∨ y ∈ D)
    (hA : ∀ x, x ∉ D → A'[x]? = A[x]?) (hA2 : ∀ x ∈ D, A'[x]? = some ((qa Q t : Nat) : Int)) : ∃ W', Bf N R A' (Q ++ D) (t + 1) W' := by
  have hdn : D.Nodup := by
    rw [List.nodup_iff_pairwise_ne, List.pairwise_iff_getElem]
    intro i j hi hj hij e
    have := hD i j hij hj
    simp [qa, hi, hj, e] at this
  refine ⟨fun z => if z ∈ D then W (qa Q t) ++ [z] else W z, ?_⟩
  have hWq : ∀ z, z ∈ Q → (if z ∈ D then W (qa Q t) ++ [z] else W z) = W z := fun z hz => if_neg (fun hd => (hD2 z hd).1 hz)
  have hWd : ∀ z, z ∈ D → (if z ∈ D then W (qa Q t) ++ [z] else W z) = W (qa Q t) ++ [z] := fun z hz => if_pos hz
  have hdlt : ∀ y ∈ D, y < N.length := fun y hy => hN.nxt _ y (hD2 y hy).2
  have hAq : ∀ x ∈ Q, A'[x]? = A[x]? := fun x hx => hA x (fun hd => (hD2 x hd).1 hx)
  refine ⟨hl, ?_, ?_, ?_, fun r hr => by simp [h.roots r hr], ?_, ?_, ?_, ?_⟩
  · rw [List.nodup_append]
    exact ⟨h.once, hdn, fun x hx y hy e => (hD2 y hy).1 (e ▸ hx)⟩
  · intro x hx
    simp only [List.mem_append] at hx
    rcases hx with hx | hx
    · exact h.lt x hx
    · exact hdlt x hx
  · intro x hx hno
    simp only [List.mem_append, not_or] at hno
    rw [hA x hno.2]
    exact h.out x hx hno.1
  · intro i hi
    simp only [List.length_append] at hi
    by_cases hiq : i < Q.length
    · rw [qa_left hiq]
      simp only [hWq _ (qa_mem hiq), hAq _ (qa_mem hiq)]
      rcases h.src i hiq with q | ⟨j, h1, h2, h3, h4, h5⟩
      · exact .inl q
      · refine .inr ⟨j, h1, by omega, ?_⟩
        rw [qa_left (by omega), hWq _ (qa_mem (by omega))]
        exact ⟨h3, h4, h5⟩
    · rw [qa_right (by omega)]
      have hm := qa_mem (Q := D) (i := i - Q.length) (by omega)
      refine .inr ⟨t, by omega, by omega, ?_⟩
      rw [qa_left ht]
      simp only [hWd _ hm, hWq _ (qa_mem ht)]
      exact ⟨(hD2 _ hm).2, trivial, hA2 _ hm⟩
  · intro i j hij hj
    simp only [List.length_append] at hj
    by_cases hjq : j < Q.length
    · rw [qa_left hjq, qa_left (by omega)]
      simp only [hWq _ (qa_mem hjq), hWq _ (qa_mem (show i < Q.length by omega))]
      exact h.inc i j hij hjq
    · have hmj := qa_mem (Q := D) (i := j - Q.length) (by omega)
      rw [qa_right (i := j) (by omega)]
      simp only [hWd _ hmj]
      by_cases hiq : i < Q.length
      · rw [qa_left hiq]
        simp only [hWq _ (qa_mem hiq)]
        by_cases hit : i ≤ t
        · have := wle_len (h.up hit ht)
          exact .inl (by simp; omega)
        · rcases h.src i hiq with ⟨_, h2, _⟩ | ⟨k, h1, h2, _, h4, _⟩
          · rw [h2]
            have := (h.wy _ t (Nat.lt_succ_self _) ht).pos
            exact .inl (by simp; omega)
          · rw [h4]
            exact wlt_snoc _ _ (h.inc k t h2 ht)
      · have hmi := qa_mem (Q := D) (i := i - Q.length) (by omega)
        rw [qa_right (i := i) (by omega)]
        simp only [hWd _ hmi]
        exact wlt_last _ (hD _ _ (by omega) (by omega))
  · intro i hi hil y hy
    simp only [List.length_append] at hil
    by_cases hiq : i < Q.length
    · rw [qa_left hiq] at hy
      by_cases hit : i < t
      · simp [h.clos i hit hiq y hy]
      · obtain rfl : i = t := by omega
        simpa using hD3 y hy
    · omega
  · intro x hx u hu
    simp only [List.mem_append] at hx
    rcases hx with hx | hx
    · simp only [hWq x hx]
      exact h.min x hx u hu
    · simp only [hWd x hx]
      exact h.fresh ht (hD2 x hx).1 hu

/-- The roots stand in the line, rising. -/
theorem bf_start {N : List (List Nat)} {R : List Nat} {A : List Int} {Q : List Nat} (hl : A.length = N.length) (hQ : ∀ i j, i < j → j < Q.length → qa Q i < qa Q j) (hm : ∀ x, x ∈ Q ↔ x ∈ R) (hR : Nodes N R) (hA : ∀ x ∈ Q, A[x]? = some (x : Int)) (hA2 : ∀ x, x < N.length → x ∉ Q → A[x]? = some (-1)) : Bf N R A Q 0 (fun x => [x]) := by
  refine ⟨hl, ?_, fun x hx => hR x ((hm x).1 hx), hA2, fun r hr => (hm r).2 hr, fun i hi => .inl ⟨(hm _).1 (qa_mem hi), rfl, hA _ (qa_mem hi)⟩, fun i j hij hj => .inr ⟨rfl, .inl (hQ i j hij hj)⟩, fun i hi => by omega, fun x _ u hu => ?_⟩
  · rw [List.nodup_iff_pairwise_ne, List.pairwise_iff_getElem]
    intro i j hi hj hij e
    have := hQ i j hij hj
    simp [qa, hi, hj, e] at this
  · cases hu with
    | root _ => exact .inl rfl
    | step hu' _ => exact .inr (.inl (by have := hu'.pos; simp; omega))

end Go.Proofs.Ytfjabjnajcfamaa
