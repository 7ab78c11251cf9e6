/-
  How much work a cycle takes, scripts, and what a graph comes to; no statement is proved here.
-/
import Derived.Test.YtbjplfbplkjibaaMathB
namespace Go.Proofs.Ytbjplfbplkjibaa

/-- The units that a node still takes. -/
def cost (x : Nd) : Nat := if x.c = 1 then x.s.length + 1 else if x.c = 2 then x.s.length - x.k + 1 else 0
def costs (l : List Nd) : Nat := (l.map cost).sum
theorem costs_set : ∀ (l : List Nd) (i : Nat) (y : Nd), i < l.length → costs (l.set i y) + cost (ndAt l i) = costs l + cost y
  | [], _, _, h => by simp at h
  | x :: l, 0, y, _ => by simp [costs, ndAt]; omega
  | x :: l, i + 1, y, h => by
    have := costs_set l i y (by simpa using h)
    simp only [costs, List.set_cons_succ, List.map_cons, List.sum_cons] at this ⊢
    rw [show ndAt (x :: l) (i + 1) = ndAt l i by simp [ndAt]]
    omega
theorem costs_snoc (l : List Nd) (y : Nd) : costs (l ++ [y]) = costs l + cost y := by simp [costs]
theorem sh_costs (G : Gs) (x : Int) : costs (sh G x).ns = costs G.ns := by
  unfold sh
  split
  · rfl
  · unfold shN
    split
    · rename_i h1
      have hl : x.toNat < G.ns.length := lvN_lt (G := G) ⟨by rw [h1]; decide, by rw [h1]; decide⟩
      have := costs_set G.ns x.toNat ⟨2, (ndAt G.ns x.toNat).s, 0⟩ hl
      simp only
      rw [show cost (ndAt G.ns x.toNat) = (ndAt G.ns x.toNat).s.length + 1 by simp [cost, h1], show cost ⟨2, (ndAt G.ns x.toNat).s, 0⟩ = (ndAt G.ns x.toNat).s.length + 1 by simp [cost]] at this
      omega
    · rfl

/-- The units that a cycle still takes, at most. -/
def mu (G : Gs) : Nat := if G.ph = 0 then 0 else if G.ph = 1 then costs G.ns + G.ns.length + 2 else G.en - G.pl + 1

theorem mu_unit {G : Gs} (h : Iv G) (h0 : G.ph ≠ 0) : mu (unit G).1 + 1 ≤ mu G := by
  by_cases h1 : G.ph = 1
  · have hmu : mu G = costs G.ns + G.ns.length + 2 := by simp [mu, h1]
    have hu : (unit G).1 = mark G := by simp only [unit, h1, if_true]
    rw [hmu, hu]
    cases hl : G.ln with
    | nil =>
      have : mark G = { G with ns := G.ns.map die, ln := [], ph := 2, pl := 0, en := G.ns.length } := by simp only [mark, hl]
      rw [this]
      simp only [mu]
      simp
    | cons x t =>
      have hx := (h.grey x).2 (by simp [hl])
      have hxl : x < G.ns.length := lvN_lt (G := G) ⟨by rw [hx]; decide, by rw [hx]; decide⟩
      have hlo := h.lo x
      by_cases hk : (ndAt G.ns x).k = (ndAt G.ns x).s.length
      · have : mark G = { G with ns := G.ns.set x ⟨3, (ndAt G.ns x).s, (ndAt G.ns x).k⟩, ln := t } := by simp only [mark, hl, if_pos hk]
        rw [this]
        simp only [mu, h1, List.length_set]
        have hc := costs_set G.ns x ⟨3, (ndAt G.ns x).s, (ndAt G.ns x).k⟩ hxl
        rw [show cost (ndAt G.ns x) = 1 by simp [cost, hx, hk], show cost ⟨3, (ndAt G.ns x).s, (ndAt G.ns x).k⟩ = 0 by simp [cost]] at hc
        simp
        omega
      · rw [mark_look h hl hk]
        generalize (ndAt G.ns x).s.getD (ndAt G.ns x).k 0 = y
        have hnx := sh_nw G y x (by omega)
        have hph := (sh_fix G y).2.1
        have hln := sh_len G y
        have hcs := sh_costs G y
        have hc := costs_set (sh G y).ns x ⟨(ndAt G.ns x).c, (ndAt G.ns x).s, (ndAt G.ns x).k + 1⟩ (by rw [hln]; exact hxl)
        rw [hnx, show cost (ndAt G.ns x) = (ndAt G.ns x).s.length - (ndAt G.ns x).k + 1 by simp [cost, hx], show cost ⟨(ndAt G.ns x).c, (ndAt G.ns x).s, (ndAt G.ns x).k + 1⟩ = (ndAt G.ns x).s.length - ((ndAt G.ns x).k + 1) + 1 by simp [cost, hx]] at hc
        simp only [mu, bump, hnx, hph, h1, List.length_set, hln]
        simp
        omega
  · have h2 : G.ph = 2 := by have := h.ph; omega
    have hpe := h.pe h2
    have hmu : mu G = G.en - G.pl + 1 := by simp [mu, h2]
    have hu : (unit G).1 = (sweep G).1 := by simp only [unit, h1, if_false]
    rw [hmu, hu]
    unfold sweep
    split
    · simp [mu]
    · split
      · simp [mu, h2]; omega
      · simp [mu, h2]; omega

theorem mu_zero {G : Gs} (h : mu G = 0) : G.ph = 0 := by
  unfold mu at h
  split at h
  · assumption
  · split at h <;> omega

/-- A cycle ends with as much work. -/
theorem work_ends : ∀ (u : Nat) {G : Gs}, Iv G → mu G ≤ u → (work u G).2.2.ph = 0 ∧ u - mu G ≤ (work u G).1
  | 0, G, _, hu => by simp only [work]; exact ⟨mu_zero (by omega), by omega⟩
  | u + 1, G, h, hu => by
    by_cases q : G.ph = 0
    · rw [work_idle q]; exact ⟨q, by simp⟩
    · simp only [work, q, if_false]
      have h1 := mu_unit h q
      have := work_ends u (iv_unit h q) (by omega)
      exact ⟨this.1, by omega⟩

theorem costs_le {l : List Nd} (h : ∀ x ∈ l, x.s.length ≤ 8192) : costs l ≤ l.length * 8193 := by
  induction l with
  | nil => simp [costs]
  | cons x l ih =>
    have h1 := ih (fun y hy => h y (by simp [hy]))
    have h2 := h x (by simp)
    have h3 : cost x ≤ 8193 := by unfold cost; split; omega; split <;> omega
    simp only [costs, List.map_cons, List.sum_cons, List.length_cons] at h1 ⊢
    omega
theorem mem_at {l : List Nd} {x : Nd} (h : x ∈ l) : ∃ i, i < l.length ∧ ndAt l i = x := by
  obtain ⟨i, hi, e⟩ := List.getElem_of_mem h
  exact ⟨i, hi, by simp [ndAt, List.getD, hi, e]⟩
theorem mu_le {G : Gs} (h : Iv G) : mu G ≤ 600000000 := by
  have hl := h.len
  have h1 := costs_le (l := G.ns) (fun x hx => by obtain ⟨i, _, rfl⟩ := mem_at hx; exact h.sl i)
  have h2 : G.ns.length * 8193 ≤ 65536 * 8193 := Nat.mul_le_mul_right _ hl
  unfold mu
  split
  · omega
  · split
    · omega
    · have := h.ph
      have := h.pe (by omega)
      omega

/-- Where a graph comes to when all work is done. -/
def Fin (G G' : Gs) : Prop := G'.ph = 0 ∧ ∃ u, G' = (work u G).2.2
theorem work_more {G : Gs} {u v : Nat} (h : (work u G).2.2.ph = 0) (hv : u ≤ v) : (work v G).2.2 = (work u G).2.2 ∧ (work v G).2.1 = (work u G).2.1 := by
  obtain ⟨k, rfl⟩ : ∃ k, v = u + k := ⟨v - u, by omega⟩
  rw [work_add, work_idle h]
  simp
theorem Fin.det {G A B : Gs} (h : Fin G A) (k : Fin G B) : A = B := by
  obtain ⟨h0, u, rfl⟩ := h
  obtain ⟨k0, v, rfl⟩ := k
  rcases Nat.le_total u v with q | q
  · exact (work_more h0 q).1.symm
  · exact (work_more k0 q).1
theorem Fin.iv {G A : Gs} (h : Fin G A) (hI : Iv G) : Iv A := by
  obtain ⟨_, u, rfl⟩ := h
  exact iv_work u hI
theorem Fin.idle {G : Gs} (h : G.ph = 0) : Fin G G := ⟨h, 0, rfl⟩
theorem Fin.of_ge {G : Gs} (h : Iv G) {u : Nat} (hu : 600000000 ≤ u) : Fin G (work u G).2.2 := ⟨(work_ends u h (Nat.le_trans (mu_le h) hu)).1, u, rfl⟩

/-! ### scripts -/

structure Oq where
  kd : Int
  a : Int
  b : Int
  c : Int
  r : List Int

def opG (G : Gs) (o : Oq) : Gs :=
  if o.kd = 1 then (set G o.a o.b o.c).1 else if o.kd = 2 then (start G o.r).1 else if o.kd = 3 then (work (min o.a 100000).toNat G).2.2
  else if o.kd = 6 then (shade G o.a).1 else if o.kd = 4 ∨ o.kd = 5 then G else (node G (min o.a 64)).1
def g0 : Gs := ⟨[], 0, [], 0, 0, 0, 0⟩
def scr (S : List Oq) : Gs := S.foldl opG g0
theorem iv_op {G : Gs} (h : Iv G) (o : Oq) : Iv (opG G o) := by
  unfold opG
  split
  · exact iv_set h _ _ _
  · split
    · exact iv_start h _
    · split
      · exact iv_work _ h
      · split
        · exact iv_shade h _
        · split
          · exact h
          · exact iv_node h _
theorem iv_ops (S : List Oq) : ∀ {G : Gs}, Iv G → Iv (S.foldl opG G) := by
  induction S with
  | nil => exact fun h => h
  | cons o S ih => exact fun h => ih (iv_op h o)
theorem iv_scr (S : List Oq) : Iv (scr S) := iv_ops S iv_new

theorem unit_cy (G : Gs) : (unit G).1.cy = G.cy ∨ ((unit G).1.cy = G.cy + 1 ∧ (unit G).1.ph = 0) := by
  unfold unit
  split
  · left
    unfold mark
    split
    · rfl
    · split
      · rfl
      · exact (sh_fix _ _).2.2.1
  · unfold sweep
    split
    · right; exact ⟨rfl, rfl⟩
    · left; split <;> rfl
theorem work_cy : ∀ (u : Nat) (G : Gs), (work u G).2.2.cy ≤ G.cy + 1
  | 0, G => by simp [work]
  | u + 1, G => by
    by_cases h : G.ph = 0
    · rw [work_idle h]; exact Nat.le_succ _
    · simp only [work, h, if_false]
      rcases unit_cy G with q | ⟨q, r⟩
      · have := work_cy u (unit G).1; omega
      · rw [work_idle r]; simp only; omega
theorem shs_cy (R : List Int) : ∀ G : Gs, (R.foldl sh G).cy = G.cy := by
  induction R with
  | nil => intro G; rfl
  | cons x R ih => intro G; simp only [List.foldl_cons]; rw [ih, (sh_fix G x).2.2.1]
theorem node_cy (G : Gs) (x : Int) : (node G x).1.cy = G.cy := by
  unfold node nodeG
  split
  · rfl
  · split <;> first | rfl | (split <;> rfl)
theorem set_cy (G : Gs) (n j x : Int) : (set G n j x).1.cy = G.cy := by
  unfold set
  split
  · rfl
  · split
    · rfl
    · split
      · rfl
      · simp only [setG, putS, (sh_fix _ _).2.2.1]
theorem shade_cy (G : Gs) (n : Int) : (shade G n).1.cy = G.cy := by
  unfold shade
  split
  · rfl
  · exact (sh_fix _ _).2.2.1
theorem start_cy (G : Gs) (R : List Int) : (start G R).1.cy = G.cy := by
  unfold start
  split
  · rfl
  · split
    · rfl
    · simp only [shs_cy]
theorem op_cy (G : Gs) (o : Oq) : (opG G o).cy ≤ G.cy + 1 := by
  unfold opG
  split
  · rw [set_cy]; omega
  · split
    · rw [start_cy]; omega
    · split
      · exact work_cy _ _
      · split
        · rw [shade_cy]; omega
        · split
          · omega
          · rw [node_cy]; omega
theorem ops_cy (S : List Oq) : ∀ G : Gs, (S.foldl opG G).cy ≤ G.cy + S.length := by
  induction S with
  | nil => intro G; simp
  | cons o S ih => intro G; simp only [List.foldl_cons, List.length_cons]; have := ih (opG G o); have := op_cy G o; omega

/-- A whole cycle from within it. -/
theorem work_cyc : ∀ (u : Nat) {G : Gs}, G.ph ≠ 0 → (work u G).2.2.ph = 0 → (work u G).2.2.cy = G.cy + 1
  | 0, G, h, k => absurd k h
  | u + 1, G, h, k => by
    simp only [work, h, if_false] at k ⊢
    by_cases q : (unit G).1.ph = 0
    · rw [work_idle q]
      rcases unit_cy G with r | r
      · exfalso
        have hm : ∀ H : Gs, H.ph ≠ 0 → (unit H).1.ph = 0 → (unit H).1.cy = H.cy + 1 := fun H h1 h2 => by
          unfold unit at h2 ⊢
          split at h2
          · exfalso
            unfold mark at h2
            split at h2
            · simp at h2
            · split at h2
              · exact h1 h2
              · rw [(sh_fix _ _).2.1] at h2; exact h1 h2
          · rename_i h3
            rw [if_neg h3]
            unfold sweep at h2 ⊢
            split at h2
            · rename_i h4; rw [if_pos h4]
            · split at h2 <;> exact absurd h2 h1
        have := hm G h q
        omega
      · exact r.1
    · have := work_cyc u q k
      rcases unit_cy G with r | r
      · omega
      · exact absurd r.2 q

end Go.Proofs.Ytbjplfbplkjibaa
