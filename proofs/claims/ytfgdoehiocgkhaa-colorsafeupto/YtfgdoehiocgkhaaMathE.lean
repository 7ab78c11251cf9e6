/-
  How many nodes and slots there are where a cycle begins; no statement is proved here.
-/
import Derived.Test.YtfgdoehiocgkhaaMathC
namespace Go.Proofs.Ytfgdoehiocgkhaa

/-! ### lengths -/

theorem mark_len' (G : Gs) : (mark G).ns.length = G.ns.length := by
  unfold mark
  split
  · simp
  · split
    · simp
    · rw [sh_len]; simp
theorem unit_len (G : Gs) : (unit G).1.ns.length = G.ns.length := by
  unfold unit
  split
  · exact mark_len' G
  · unfold sweep
    split
    · rfl
    · split <;> simp
theorem work_len : ∀ (u : Nat) (G : Gs), (work u G).2.2.ns.length = G.ns.length
  | 0, _ => rfl
  | u + 1, G => by
    by_cases h : G.ph = 0
    · rw [work_idle h]
    · simp only [work, h, if_false]; rw [work_len u, unit_len]
theorem shs_len' (R : List Int) : ∀ G : Gs, (R.foldl sh G).ns.length = G.ns.length := by
  induction R with
  | nil => intro G; rfl
  | cons x R ih => intro G; simp only [List.foldl_cons]; rw [ih, sh_len]
theorem start_len (G : Gs) (R : List Int) : (start G R).1.ns.length = G.ns.length := by
  unfold start
  split
  · rfl
  · split
    · rfl
    · simp only [shs_len']; simp
theorem set_len (G : Gs) (n j x : Int) : (set G n j x).1.ns.length = G.ns.length := by
  unfold set
  split
  · rfl
  · split
    · rfl
    · split
      · rfl
      · simp only [setG, putS, List.length_set]; rw [sh_len, sh_len]
theorem shade_len (G : Gs) (n : Int) : (shade G n).1.ns.length = G.ns.length := by
  unfold shade
  split
  · rfl
  · exact sh_len _ _
theorem node_len1 {G : Gs} (h : G.le ≤ G.ns.length) (x : Int) : (node G x).1.ns.length ≤ G.ns.length + 1 := by
  have hf := (fr_le h).2
  unfold node
  split
  · simp
  · split
    · rename_i q
      simp only [nodeG, q, if_true]
      omega
    · rename_i q
      simp only
      rw [node_len h q]
      omega

/-- Does a call make a node? -/
def isN (o : Oq) : Bool := decide (o.kd < 1) || decide (6 < o.kd)
def cnt (S : List Oq) : Nat := (S.filter isN).length
theorem op_len {G : Gs} (h : Iv G) (o : Oq) : (opG G o).ns.length ≤ G.ns.length + if isN o then 1 else 0 := by
  unfold opG
  split
  · rw [set_len]; omega
  · split
    · rw [start_len]; omega
    · split
      · rw [work_len]; omega
      · split
        · rw [shade_len]; omega
        · split
          · omega
          · have : isN o = true := by
              simp only [isN, Bool.or_eq_true, decide_eq_true_eq]
              omega
            rw [this]
            exact node_len1 h.le _
theorem ops_len (S : List Oq) : ∀ {G : Gs}, Iv G → (S.foldl opG G).ns.length ≤ G.ns.length + cnt S := by
  induction S with
  | nil => intro G _; simp [cnt]
  | cons o S ih =>
    intro G h
    have h1 := ih (iv_op h o)
    have h2 := op_len h o
    simp only [List.foldl_cons]
    have h3 : cnt (o :: S) = (if isN o then 1 else 0) + cnt S := by
      unfold cnt
      by_cases q : isN o = true
      · simp [q]; omega
      · simp [q]
    omega
theorem scr_len (S : List Oq) : (scr S).ns.length ≤ cnt S := by
  have := ops_len S (G := g0) iv_new
  simpa [scr, g0] using this
theorem Fin.len {G G' : Gs} (h : Fin G G') : G'.ns.length = G.ns.length := by
  obtain ⟨_, u, rfl⟩ := h
  exact work_len u G

/-! ### costs where a cycle begins -/

def whCost (G : Gs) (i : Nat) : Nat := if lvN G i then (ndAt G.ns i).s.length + 1 else 0
theorem costs_take (G : Gs) : ∀ k, k ≤ G.ns.length → costs ((G.ns.take k).map wh) = (((List.range k).filter fun i => decide (lvN G i)).map fun i => (ndAt G.ns i).s.length + 1).sum
  | 0, _ => by simp [costs]
  | k + 1, h => by
    have ih := costs_take G k (by omega)
    have hk : k < G.ns.length := by omega
    rw [List.take_add_one, ndAt_get hk, List.map_append, List.range_succ, List.filter_append, List.map_append, List.sum_append, ← ih]
    have : ∀ l : List Nd, ∀ x : Nd, costs (l ++ [x]) = costs l + cost x := costs_snoc
    simp only [Option.toList_some, List.map_cons, List.map_nil]
    rw [this]
    congr 1
    by_cases hl : lvN G k
    · have hc : (ndAt G.ns k).c ≠ 0 ∧ (ndAt G.ns k).c ≠ 4 := hl
      simp [cost, wh, hc, hl]
    · have hc : ¬ ((ndAt G.ns k).c ≠ 0 ∧ (ndAt G.ns k).c ≠ 4) := hl
      simp only [wh, if_neg hc]
      have : (ndAt G.ns k).c ≠ 1 ∧ (ndAt G.ns k).c ≠ 2 := by omega
      simp [cost, this, hl]
theorem costs_begin (G : Gs) : costs (begin G).ns = ((lives G).map fun i => (ndAt G.ns i).s.length + 1).sum := by
  have := costs_take G G.ns.length (Nat.le_refl _)
  rw [List.take_length] at this
  exact this
theorem shs_costs (R : List Int) : ∀ G : Gs, costs (R.foldl sh G).ns = costs G.ns := by
  induction R with
  | nil => intro G; rfl
  | cons x R ih => intro G; simp only [List.foldl_cons]; rw [ih, sh_costs]
theorem shs_ph (R : List Int) : ∀ G : Gs, (R.foldl sh G).ph = G.ph := by
  induction R with
  | nil => intro G; rfl
  | cons x R ih => intro G; simp only [List.foldl_cons]; rw [ih, (sh_fix G x).2.1]
theorem start_ok {G : Gs} {R : List Int} (h : (start G R).2 = 0) : (start G R).1 = R.foldl sh (begin G) ∧ R.all (lvB G) = true ∧ G.ph = 0 := by
  unfold start at h ⊢
  split at h
  · simp at h
  · rename_i h1
    split at h
    · simp at h
    · rename_i h2
      rw [if_neg h1, if_neg h2]
      exact ⟨rfl, by simpa using h2, by omega⟩
theorem sum_split (l : List Nat) (f : Nat → Nat) : (l.map fun i => f i + 1).sum = (l.map f).sum + l.length := by
  induction l with
  | nil => rfl
  | cons x l ih => simp only [List.map_cons, List.sum_cons, List.length_cons, ih]; omega
/-- The work of a cycle that begins. -/
theorem mu_start {G : Gs} {R : List Int} (h : (start G R).2 = 0) : mu (start G R).1 = ((lives G).map fun i => (ndAt G.ns i).s.length).sum + (lives G).length + G.ns.length + 2 ∧ (start G R).1.ph = 1 := by
  obtain ⟨e, _, _⟩ := start_ok h
  have hp : (start G R).1.ph = 1 := by rw [e, shs_ph]; rfl
  refine ⟨?_, hp⟩
  unfold mu
  rw [if_neg (by omega), if_pos hp, e, shs_costs, costs_begin, sum_split, shs_len']
  simp [begin]

/-- A node that comes while it is marked takes no work. -/
theorem node_costs {G : Gs} (h : Iv G) (x : Int) : costs (node G x).1.ns = costs G.ns := by
  have hl := h.le
  have hf := (fr_le hl).2
  unfold node
  split
  · rfl
  · split
    · rename_i q
      simp only [nodeG, q, if_true]
    · rename_i q
      simp only [nodeG, q, if_false]
      by_cases e : fr G = G.ns.length
      · rw [if_pos e]
        have h1 := costs_set (G.ns ++ [nz]) (fr G) ⟨3, List.replicate x.toNat (-1), 0⟩ (by simp; omega)
        rw [ndAt_snoc, if_pos e, costs_snoc] at h1
        simp only [cost, nz] at h1
        simp at h1
        exact h1
      · rw [if_neg e]
        have h1 := costs_set G.ns (fr G) ⟨3, List.replicate x.toNat (-1), 0⟩ (by omega)
        have h2 := fr_free (G := G)
        simp only [cost, h2] at h1
        simp at h1
        exact h1
theorem node_fix (G : Gs) (x : Int) : (node G x).1.ph = G.ph ∧ (node G x).1.cy = G.cy := by
  unfold node nodeG
  split
  · exact ⟨rfl, rfl⟩
  · split
    · exact ⟨rfl, rfl⟩
    · exact ⟨rfl, rfl⟩
theorem node_top {G : Gs} (h : Iv G) (x : Int) (c : Nat) (hp : G.ns.length ≤ c ∨ ∃ j, lvN G j ∧ G.ns.length = j + 1) : (node G x).1.ns.length ≤ c ∨ ∃ j, lvN (node G x).1 j ∧ (node G x).1.ns.length = j + 1 := by
  have hl := h.le
  have hf := (fr_le hl).2
  unfold node
  split
  · exact hp
  · split
    · rename_i q
      have : (nodeG G x.toNat).ns = G.ns := by simp only [nodeG, q, if_true]
      simp only [lvN, this]
      exact hp
    · rename_i q
      simp only
      rw [node_len hl q]
      by_cases e : fr G = G.ns.length
      · right
        exact ⟨fr G, (node_lv hl q _ _).2 (.inl rfl), by omega⟩
      · rw [Nat.max_eq_left (by omega)]
        rcases hp with r | ⟨j, r1, r2⟩
        · exact .inl r
        · exact .inr ⟨j, (node_lv hl q _ _).2 (.inr r1), r2⟩

end Go.Proofs.Ytfgdoehiocgkhaa
