/-
  Tables as lists of words: plain notions; no statement is proved here.
-/
import Derived.Test.YtkknadkcpndnaaaDoorBitsM
import Derived.Test.YtkknadkcpndnaaaDoorPMath
namespace Go.Proofs.YtkknadkcpndnaaaDoor
open Pr (Gp sq pl)

def cw (T : List Nat) (g : Nat) : Nat := T.getD (3 + 17 * g) 0
def hsw (T : List Nat) (g i : Nat) : Nat := T.getD (3 + 17 * g + 1 + 2 * i) 0
def idw (T : List Nat) (g i : Nat) : Nat := T.getD (3 + 17 * g + 2 + 2 * i) 0
/-- The group has an empty slot. -/
def hasE (T : List Nat) (g : Nat) : Bool := decide (mt (cw T g) 128 ≠ 0)
/-- Shaped as a table of G groups. -/
structure Shp (T : List Nat) (G : Nat) : Prop where
  gp : Gp G
  g0 : T.getD 0 0 = G
  len : T.length = 3 + 17 * G
  lt : ∀ x ∈ T, x < 18446744073709551616
theorem getD_lt64 {T : List Nat} (h : ∀ x ∈ T, x < 18446744073709551616) (j : Nat) : T.getD j 0 < 18446744073709551616 := by
  rw [List.getD_eq_getElem?_getD]
  cases hj : T[j]? with
  | none => simp
  | some x => exact h x (List.mem_of_getElem? hj)
theorem Shp.cw_lt {T : List Nat} {G : Nat} (h : Shp T G) (g : Nat) : cw T g < 18446744073709551616 := getD_lt64 h.lt _
theorem Shp.hs_lt {T : List Nat} {G : Nat} (h : Shp T G) (g i : Nat) : hsw T g i < 18446744073709551616 := getD_lt64 h.lt _
theorem Shp.id_lt {T : List Nat} {G : Nat} (h : Shp T G) (g i : Nat) : idw T g i < 18446744073709551616 := getD_lt64 h.lt _

theorem mk_testBit (p : Nat → Bool) : ∀ k i, (mk p k).testBit i = (decide (i < k) && p i)
  | 0, i => by simp [mk]
  | k + 1, i => by
    rw [mk_or, Nat.testBit_or, mk_testBit p k i]
    by_cases hp : p k = true
    · rw [if_pos hp, Nat.testBit_shiftLeft]
      rcases Nat.lt_trichotomy i k with q | q | q
      · simp [q, show i < k + 1 by omega, show ¬ k ≤ i by omega]
      · subst q; simp [hp]
      · obtain ⟨j, rfl⟩ : ∃ j, i = k + (j + 1) := ⟨i - k - 1, by omega⟩
        simp [show k + (j + 1) - k = j + 1 by omega, Nat.testBit_succ]
        omega
    · rw [if_neg hp]
      rcases Nat.lt_trichotomy i k with q | q | q
      · simp [q, show i < k + 1 by omega]
      · subst q; simp [hp]
      · simp [show ¬ i < k by omega, show ¬ i < k + 1 by omega]
theorem bsF_mk (p : Nat → Bool) : bsF (mk p 8) = (List.range 8).filter p := by
  unfold bsF
  rw [show List.range 64 = List.range 8 ++ List.range' 8 56 from by decide, List.filter_append]
  have h2 : (List.range' 8 56).filter (fun i => (mk p 8).testBit i) = [] := by
    rw [List.filter_eq_nil_iff]
    intro i hi
    rw [mk_testBit]
    simp [List.mem_range'] at hi
    simp; omega
  rw [h2, List.append_nil]
  apply List.filter_congr
  intro i hi
  rw [mk_testBit]
  simp at hi
  simp [hi]
theorem bsF_mt (c h : Nat) : bsF (mt c h) = (List.range 8).filter fun i => decide (byt c i = h) := bsF_mk _
theorem bsF_mt_len (c h : Nat) : (bsF (mt c h)).length ≤ 8 := by rw [bsF_mt]; have := List.length_filter_le (fun i => decide (byt c i = h)) (List.range 8); simpa using this
/-- The slots of a group that have the hash, by the low bits first. -/
def msl (T : List Nat) (h g : Nat) (L : List Nat) : List (Nat × Nat) := (L.filter fun i => hsw T g i == h).map fun i => (g, i)
def mgr (T : List Nat) (h g : Nat) : List (Nat × Nat) := msl T h g (bsF (mt (cw T g) (h % 128)))
def mtl (T : List Nat) (h : Nat) (L : List Nat) : List (Nat × Nat) := L.flatMap (mgr T h)
/-- Up to the first group with an empty slot. -/
def wk (T : List Nat) : List Nat → List Nat
  | [] => []
  | g :: l => if hasE T g then [g] else g :: wk T l
def mts (T : List Nat) (h G : Nat) : List (Nat × Nat) := mtl T h (wk T (sq (h / 128) G))
theorem mtl_snoc (T : List Nat) (h : Nat) (L : List Nat) (g : Nat) : mtl T h (L ++ [g]) = mtl T h L ++ mgr T h g := by simp [mtl]
theorem msl_snoc_yes {T : List Nat} {h g i : Nat} (L : List Nat) (e : hsw T g i = h) : msl T h g (L ++ [i]) = msl T h g L ++ [(g, i)] := by simp [msl, List.filter_append, e]
theorem msl_snoc_no {T : List Nat} {h g i : Nat} (L : List Nat) (e : hsw T g i ≠ h) : msl T h g (L ++ [i]) = msl T h g L := by simp [msl, List.filter_append, e]
theorem wk_none {T : List Nat} {L : List Nat} (h : ∀ g ∈ L, hasE T g = false) : wk T L = L := by
  induction L with
  | nil => rfl
  | cons g L ih => rw [wk, h g (by simp), ih fun x hx => h x (by simp [hx])]; simp
theorem wk_at {T : List Nat} {A : List Nat} {g : Nat} (B : List Nat) (h : ∀ x ∈ A, hasE T x = false) (hg : hasE T g = true) : wk T (A ++ g :: B) = A ++ [g] := by
  induction A with
  | nil => simp [wk, hg]
  | cons x A ih => rw [List.cons_append, wk, h x (by simp), ih fun y hy => h y (by simp [hy])]; simp
theorem wk_pre (T : List Nat) (L : List Nat) : wk T L <+: L := by
  induction L with
  | nil => simp [wk]
  | cons g L ih =>
    rw [wk]
    split
    · exact ⟨L, by simp⟩
    · obtain ⟨r, hr⟩ := ih
      exact ⟨r, by simp [hr]⟩
theorem mtl_pre (T : List Nat) (h : Nat) {A B : List Nat} (p : A <+: B) : mtl T h A <+: mtl T h B := by
  obtain ⟨r, rfl⟩ := p
  exact ⟨mtl T h r, by simp [mtl]⟩
theorem msl_pre (T : List Nat) (h g : Nat) {A B : List Nat} (p : A <+: B) : msl T h g A <+: msl T h g B := by
  obtain ⟨r, rfl⟩ := p
  exact ⟨msl T h g r, by simp [msl]⟩
theorem msl_len (T : List Nat) (h g : Nat) (L : List Nat) : (msl T h g L).length ≤ L.length := by
  simp only [msl, List.length_map]
  exact List.length_filter_le _ _
theorem mgr_len (T : List Nat) (h g : Nat) : (mgr T h g).length ≤ 8 := Nat.le_trans (msl_len _ _ _ _) (bsF_mt_len _ _)
theorem mtl_len (T : List Nat) (h : Nat) (L : List Nat) : (mtl T h L).length ≤ 8 * L.length := by
  induction L with
  | nil => simp [mtl]
  | cons g L ih =>
    have := mgr_len T h g
    simp only [mtl, List.flatMap_cons, List.length_append, List.length_cons] at ih ⊢
    omega
theorem mts_of {T : List Nat} {h G : Nat} {A : List Nat} {x : Nat} (hA : ∀ g ∈ A, hasE T g = false) (hp : A ++ [x] <+: sq (h / 128) G) : mtl T h (A ++ [x]) <+: mts T h G := by
  obtain ⟨B, hB⟩ := hp
  refine mtl_pre T h ?_
  rw [← hB, List.append_assoc, List.singleton_append]
  by_cases hx : hasE T x = true
  · rw [wk_at B hA hx]; exact List.prefix_rfl
  · have : ∀ A : List Nat, (∀ g ∈ A, hasE T g = false) → wk T (A ++ x :: B) = A ++ x :: wk T B := by
      intro A
      induction A with
      | nil => intro _; simp [wk, hx]
      | cons y A ih => intro h; rw [List.cons_append, wk, h y (by simp), ih fun z hz => h z (by simp [hz])]; simp
    rw [this A hA]
    exact ⟨wk T B, by simp⟩
theorem mts_end {T : List Nat} {h G : Nat} {A : List Nat} {x : Nat} (hA : ∀ g ∈ A, hasE T g = false) (hx : hasE T x = true) (hp : A ++ [x] <+: sq (h / 128) G) : mtl T h (A ++ [x]) = mts T h G := by
  obtain ⟨B, hB⟩ := hp
  unfold mts
  rw [← hB, List.append_assoc, List.singleton_append, wk_at B hA hx]
theorem mts_done {T : List Nat} {h G : Nat} {A : List Nat} (hA : ∀ g ∈ A, hasE T g = false) (hp : A = sq (h / 128) G) : mtl T h A = mts T h G := by
  subst hp
  unfold mts
  rw [wk_none hA]

/-! ### all entries -/
def esl (T : List Nat) (g : Nat) (L : List Nat) : List (Nat × Nat) := L.map fun i => (hsw T g i, idw T g i)
def egr (T : List Nat) (g : Nat) : List (Nat × Nat) := esl T g (bsF (fl (cw T g)))
def ents (T : List Nat) (k : Nat) : List (Nat × Nat) := (List.range k).flatMap (egr T)
theorem ents_succ (T : List Nat) (k : Nat) : ents T (k + 1) = ents T k ++ egr T k := by simp [ents, List.range_succ]
theorem esl_snoc (T : List Nat) (g i : Nat) (L : List Nat) : esl T g (L ++ [i]) = esl T g L ++ [(hsw T g i, idw T g i)] := by simp [esl]
theorem esl_pre (T : List Nat) (g : Nat) {A B : List Nat} (p : A <+: B) : esl T g A <+: esl T g B := by
  obtain ⟨r, rfl⟩ := p
  exact ⟨esl T g r, by simp [esl]⟩
theorem bsF_fl (c : Nat) : bsF (fl c) = (List.range 8).filter fun i => decide (byt c i < 128) := bsF_mk _
theorem bsF_fl_len (c : Nat) : (bsF (fl c)).length ≤ 8 := by rw [bsF_fl]; have := List.length_filter_le (fun i => decide (byt c i < 128)) (List.range 8); simpa using this
theorem egr_len (T : List Nat) (g : Nat) : (egr T g).length ≤ 8 := by simp only [egr, esl, List.length_map]; exact bsF_fl_len _
theorem ents_len (T : List Nat) : ∀ k, (ents T k).length ≤ 8 * k
  | 0 => by simp [ents]
  | k + 1 => by
    have := ents_len T k
    have := egr_len T k
    rw [ents_succ, List.length_append]
    omega
theorem ents_pre (T : List Nat) {j k : Nat} (h : j ≤ k) : ents T j <+: ents T k := by
  obtain ⟨d, rfl⟩ := Nat.exists_eq_add_of_le h
  clear h
  induction d with
  | zero => exact List.prefix_rfl
  | succ d ih =>
    refine ih.trans ?_
    rw [← Nat.add_assoc, ents_succ]
    exact List.prefix_append _ _
theorem fl_lt256 (c : Nat) : fl c < 256 := mk_lt _ 8
end Go.Proofs.YtkknadkcpndnaaaDoor
