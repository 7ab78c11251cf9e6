/-
  Plain facts on the reference's Way: how far the end is, and the first of the shortest ways; no statement is proved here.
-/
import Derived.Test.YtfjabjnajcfamaaBfs
namespace Go.Proofs.Ytfjabjnajcfamaa

/-- A way from a node to the end, from its front. -/
inductive Sf (N : List (List Nat)) (t : Nat) : List Nat → Nat → Prop
  | nil : Sf N t [t] t
  | cons {u : List Nat} {x y : Nat} : y ∈ nxt N x → Sf N t u y → Sf N t (x :: u) x

theorem Sf.snoc {N : List (List Nat)} {x r y : Nat} {u : List Nat} (h : Sf N x u r) (hy : y ∈ nxt N x) : Sf N y (u ++ [y]) r := by
  induction h with
  | nil => exact .cons hy .nil
  | cons h1 _ ih => exact .cons h1 ih
theorem Wy.sf {N : List (List Nat)} {R v : List Nat} {t : Nat} (h : Wy N R v t) : ∃ r ∈ R, Sf N t v r := by
  induction h with
  | root h => exact ⟨_, h, .nil⟩
  | step _ hy ih =>
    obtain ⟨r, hr, hs⟩ := ih
    exact ⟨r, hr, hs.snoc hy⟩
theorem Sf.pos {N : List (List Nat)} {t x : Nat} {u : List Nat} (h : Sf N t u x) : 0 < u.length := by cases h <;> simp
theorem Sf.head {N : List (List Nat)} {t x : Nat} {u : List Nat} (h : Sf N t u x) : ∃ v, u = x :: v := by
  cases h with
  | nil => exact ⟨[], rfl⟩
  | cons _ _ => exact ⟨_, rfl⟩
theorem Sf.join {N : List (List Nat)} {R : List Nat} {t x : Nat} {u : List Nat} (h : Sf N t u x) : ∀ {p : List Nat}, Wy N R (p ++ [x]) x → Wy N R (p ++ u) t := by
  induction h with
  | nil => exact fun h => h
  | @cons u x y hy hs ih =>
    intro p hp
    have := ih (p := p ++ [x]) (.step hp hy)
    simpa using this
theorem Sf.wy {N : List (List Nat)} {R : List Nat} {t x : Nat} {u : List Nat} (h : Sf N t u x) (hr : x ∈ R) : Wy N R u t := by
  have := h.join (R := R) (p := []) (.root hr)
  simpa using this

/-- How far the end is, as far as it is known. -/
def fa (F : List Int) (x : Nat) : Int := F.getD x (-1)
def nn (F : List Int) : Nat := F.countP fun v => decide (0 ≤ v)

structure Fo (N : List (List Nat)) (t : Nat) (F : List Int) : Prop where
  len : F.length = N.length
  tn : t < N.length
  end_ : fa F t = 0
  way : ∀ x, x < N.length → fa F x = -1 ∨ (0 ≤ fa F x ∧ ∃ u, Sf N t u x ∧ (u.length : Int) = fa F x + 1)
  top : ∀ x, x < N.length → fa F x < nn F

theorem fa_set {F : List Int} {x y : Nat} {v : Int} (hx : x < F.length) : fa (F.set x v) y = if x = y then v else fa F y := by
  unfold fa
  by_cases e : x = y
  · subst e; simp [hx]
  · simp [e, List.getElem?_set_ne e]

theorem nn_le (F : List Int) : nn F ≤ F.length := List.countP_le_length

/-- What is to be saved still. -/
def pot (m : Nat) : List Int → Nat
  | [] => 0
  | v :: F => (if 0 ≤ v then v.toNat else m) + pot m F
theorem pot_set {m : Nat} {v : Int} : ∀ {F : List Int} {x : Nat}, x < F.length → 0 ≤ v → (fa F x < 0 ∧ v < m ∨ v < fa F x) → pot m (F.set x v) + 1 ≤ pot m F
  | [], x, hx, _, _ => by simp at hx
  | a :: F, 0, _, hv, h => by
    simp only [fa, List.getD_cons_zero] at h
    simp only [List.set_cons_zero, pot, hv, if_true]
    by_cases ha : 0 ≤ a
    · simp only [ha, if_true]; omega
    · simp only [ha, if_false]; omega
  | a :: F, x + 1, hx, hv, h => by
    simp only [fa, List.getD_cons_succ] at h
    have := pot_set (m := m) (v := v) (F := F) (x := x) (by simpa using hx) hv h
    simp only [List.set_cons_succ, pot]
    omega

theorem nn_set {v : Int} : ∀ {F : List Int} {x : Nat}, x < F.length → 0 ≤ v → nn (F.set x v) = nn F + if fa F x < 0 then 1 else 0
  | [], x, hx, _ => by simp at hx
  | a :: F, 0, _, hv => by
    simp only [fa, List.getD_cons_zero, List.set_cons_zero, nn, List.countP_cons, hv, decide_true, if_true]
    by_cases ha : 0 ≤ a
    · have h1 : ¬ a < 0 := by omega
      simp [ha, h1]
    · have h1 : a < 0 := by omega
      simp [ha, h1]
  | a :: F, x + 1, hx, hv => by
    have := nn_set (v := v) (F := F) (x := x) (by simpa using hx) hv
    simp only [fa, nn, List.getD_cons_succ, List.set_cons_succ, List.countP_cons] at this ⊢
    rw [this, Nat.add_right_comm]
    congr

/-- A node is nearer than was known. -/
theorem Fo.relax {N : List (List Nat)} {t : Nat} {F : List Int} (h : Fo N t F) {x y : Nat} (hx : x < N.length) (hyl : y < N.length) (hy : y ∈ nxt N x) (h0 : 0 ≤ fa F y) (h1 : fa F x < 0 ∨ fa F y + 1 < fa F x) : Fo N t (F.set x (fa F y + 1)) ∧ pot N.length (F.set x (fa F y + 1)) + 1 ≤ pot N.length F := by
  have hxl : x < F.length := by rw [h.len]; exact hx
  have hty := h.top y hyl
  have hnl := nn_le F
  rw [h.len] at hnl
  have hxt : x ≠ t := fun e => by
    subst e
    have := h.end_
    omega
  have hnn := nn_set (v := fa F y + 1) hxl (by omega)
  refine ⟨⟨by simpa using h.len, h.tn, ?_, fun z hz => ?_, fun z hz => ?_⟩, pot_set hxl (by omega) ?_⟩
  · rw [fa_set hxl, if_neg hxt]; exact h.end_
  · rw [fa_set hxl]
    by_cases e : x = z
    · subst e
      rw [if_pos rfl]
      rcases h.way y hyl with q | ⟨_, u, hu, hl⟩
      · omega
      · exact .inr ⟨by omega, x :: u, .cons hy hu, by simp; omega⟩
    · rw [if_neg e]; exact h.way z hz
  · rw [fa_set hxl, hnn]
    have := h.top z hz
    by_cases e : x = z
    · subst e
      rw [if_pos rfl]
      rcases h1 with h1 | h1
      · rw [if_pos h1]; omega
      · have : ¬ fa F x < 0 := by omega
        rw [if_neg this]; omega
    · rw [if_neg e]; split <;> omega
  · rcases h1 with h1 | h1
    · left
      refine ⟨h1, ?_⟩
      -- x itself is not known: so not all are
      have h2 : nn (F.set x (fa F y + 1)) ≤ F.length := by
        have := nn_le (F.set x (fa F y + 1))
        simpa using this
      rw [hnn, if_pos h1, h.len] at h2
      omega
    · exact .inr h1

/-- Nothing is nearer than is known. -/
def Stab (N : List (List Nat)) (F : List Int) : Prop := ∀ x, x < N.length → ∀ y ∈ nxt N x, 0 ≤ fa F y → 0 ≤ fa F x ∧ fa F x ≤ fa F y + 1

theorem Fo.low {N : List (List Nat)} {t : Nat} {F : List Int} (hN : Net N) (h : Fo N t F) (hs : Stab N F) {u : List Nat} {x : Nat} (hu : Sf N t u x) : x < N.length → 0 ≤ fa F x ∧ fa F x + 1 ≤ u.length := by
  induction hu with
  | nil => intro _; have := h.end_; simp; omega
  | @cons u x y hy _ ih =>
    intro hx
    obtain ⟨h1, h2⟩ := ih (hN.nxt x y hy)
    have := hs x hx y hy h1
    simp
    omega

/-- The next node of the first way: the least that is nearer by one. -/
structure Nxt (N : List (List Nat)) (F : List Int) (x y : Nat) : Prop where
  mem : y ∈ nxt N x
  far : fa F y = fa F x - 1
  least : ∀ z ∈ nxt N x, fa F z = fa F x - 1 → y ≤ z

/-- The first way from a node. -/
inductive Gr (N : List (List Nat)) (t : Nat) (F : List Int) : List Nat → Nat → Prop
  | nil : Gr N t F [t] t
  | cons {u : List Nat} {x y : Nat} : x ≠ t → Nxt N F x y → Gr N t F u y → Gr N t F (x :: u) x

theorem Gr.sf {N : List (List Nat)} {t : Nat} {F : List Int} {u : List Nat} {x : Nat} (h : Gr N t F u x) : Sf N t u x := by
  induction h with
  | nil => exact .nil
  | cons _ hn _ ih => exact .cons hn.mem ih
theorem Gr.len {N : List (List Nat)} {t : Nat} {F : List Int} (hF : Fo N t F) {u : List Nat} {x : Nat} (h : Gr N t F u x) : (u.length : Int) = fa F x + 1 := by
  induction h with
  | nil => have := hF.end_; simp; omega
  | cons _ hn _ ih => have := hn.far; simp; omega
theorem Gr.first {N : List (List Nat)} {t : Nat} {F : List Int} (hN : Net N) (hF : Fo N t F) (hs : Stab N F) {u : List Nat} {x : Nat} (h : Gr N t F u x) : ∀ {v : List Nat}, Sf N t v x → v.length = u.length → u = v ∨ lx u v := by
  induction h with
  | nil =>
    intro v hv hl
    obtain ⟨v', rfl⟩ := hv.head
    simp at hl
    subst hl
    exact .inl rfl
  | @cons u x y hxt hn hg ih =>
    intro v hv hl
    cases hv with
    | nil => exact absurd rfl hxt
    | @cons v' _ z hz hv' =>
      have hzl : z < N.length := hN.nxt x z hz
      have h1 := hF.low hN hs hv' hzl
      have h2 := hg.len hF
      have h3 := hn.far
      have hl' : v'.length = u.length := by simpa using hl
      have hx0 : 0 ≤ fa F x := by
        have := hg.len hF
        omega
      by_cases hxl : x < N.length
      · have h4 := hs x hxl z hz h1.1
        have hzf : fa F z = fa F x - 1 := by omega
        have hyz := hn.least z hz hzf
        obtain ⟨u', hu'⟩ := hg.sf.head
        obtain ⟨v'', hv''⟩ := hv'.head
        by_cases e : y = z
        · subst e
          rcases ih hv' hl' with q | q
          · exact .inl (by rw [q])
          · exact .inr (.inr ⟨rfl, q⟩)
        · right
          refine .inr ⟨rfl, ?_⟩
          rw [hu', hv'']
          exact .inl (by omega)
      · exfalso
        have : nxt N x = [] := by simp [nxt, List.getD, List.getElem?_eq_none (Nat.le_of_not_lt hxl)]
        rw [this] at hz
        cases hz

/-- The first root: the nearest, and the least of those. -/
structure Rt1 (R : List Nat) (F : List Int) (r : Nat) : Prop where
  mem : r ∈ R
  far : 0 ≤ fa F r
  least : ∀ s ∈ R, 0 ≤ fa F s → fa F r < fa F s ∨ (fa F r = fa F s ∧ r ≤ s)

theorem gr_best {N : List (List Nat)} {R : List Nat} {t : Nat} {F : List Int} (hN : Net N) (hR : Nodes N R) (hF : Fo N t F) (hs : Stab N F) {u : List Nat} {r : Nat} (hr : Rt1 R F r) (h : Gr N t F u r) : Best N R t u := by
  refine ⟨h.sf.wy hr.mem, fun v hv => ?_⟩
  obtain ⟨s, hsR, hsf⟩ := hv.sf
  have h1 := hF.low hN hs hsf (hR s hsR)
  have h2 := h.len hF
  rcases hr.least s hsR h1.1 with q | ⟨q1, q2⟩
  · exact .inr (.inl (by omega))
  · by_cases hl : v.length = u.length
    · by_cases e : r = s
      · subst e
        rcases h.first hN hF hs hsf hl with q | q
        · exact .inl q
        · exact .inr (.inr ⟨hl.symm, q⟩)
      · right
        right
        refine ⟨hl.symm, ?_⟩
        obtain ⟨u', rfl⟩ := h.sf.head
        obtain ⟨v', rfl⟩ := hsf.head
        exact .inl (by omega)
    · exact .inr (.inl (by omega))

theorem no_best {N : List (List Nat)} {R : List Nat} {t : Nat} {F : List Int} (hN : Net N) (hR : Nodes N R) (hF : Fo N t F) (hs : Stab N F) (h : ∀ r ∈ R, fa F r < 0) : ¬ Rch N R (-1) t := fun hr => by
  obtain ⟨v, hv⟩ := hr.wy
  obtain ⟨s, hsR, hsf⟩ := hv.sf
  have := hF.low hN hs hsf (hR s hsR)
  have := h s hsR
  omega

/-- A node that is far has one that is nearer by one. -/
theorem Fo.near {N : List (List Nat)} {t : Nat} {F : List Int} (hN : Net N) (h : Fo N t F) (hs : Stab N F) {x : Nat} (hx : x < N.length) (h0 : 0 ≤ fa F x) (hxt : x ≠ t) : ∃ y ∈ nxt N x, fa F y = fa F x - 1 := by
  rcases h.way x hx with q | ⟨_, u, hu, hl⟩
  · omega
  · cases hu with
    | nil => exact absurd rfl hxt
    | @cons u' _ y hy hu' =>
      have h1 := h.low hN hs hu' (hN.nxt x y hy)
      have h2 := hs x hx y hy h1.1
      refine ⟨y, hy, ?_⟩
      simp at hl
      omega

end Go.Proofs.Ytfjabjnajcfamaa
