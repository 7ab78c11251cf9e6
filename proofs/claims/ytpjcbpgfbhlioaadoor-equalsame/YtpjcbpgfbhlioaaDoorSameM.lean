/-
  Values without floats are equal just where they are the same; no statement is proved here.
-/
import Derived.Test.YtpjcbpgfbhlioaaDoorREqE
namespace Go.Proofs.YtpjcbpgfbhlioaaDoor
open Go.RowKit

theorem Cl.ext4 {x y : Cl} (h1 : x.n = y.n) (h2 : x.s = y.s) (h3 : x.t = y.t) (h4 : x.box = y.box) : x = y := Cl.ext_iff.2 ⟨h1, h2, h3, h4⟩
theorem cells_ext {l l' : List Cl} (hn : l.length = l'.length) (h : ∀ i, i < l.length → cAt l i = cAt l' i) : l = l' := by
  refine List.ext_getElem hn (fun i h1 h2 => ?_)
  have := h i h1
  simp only [cAt, List.getD, List.getElem?_eq_getElem h1, List.getElem?_eq_getElem h2, Option.getD_some] at this
  exact this

theorem eqL_each {f : Int → Cl → Cl → Bool × Int} : ∀ (ks : List Int) (v w : List Cl), (eqL f ks v w).1 = true → ∀ i, i < ks.length → (f (ks.getD i 0) (cAt v i) (cAt w i)).1 = true
  | [], _, _, _, i, hi => by simp at hi
  | k :: ks, v, w, h, i, hi => by
    rw [eqL] at h
    split at h
    · rename_i h1
      cases i with
      | zero => exact h1
      | succ i =>
        have e : ∀ u : List Cl, cAt u.tail i = cAt u (i + 1) := fun u => by cases u <;> simp [cAt]
        have := eqL_each ks v.tail w.tail h i (by simpa using hi)
        rw [e, e] at this
        simpa using this
    · simp at h

theorem eqL_self {f : Int → Cl → Cl → Bool × Int} : ∀ (ks : List Int) (v w : List Cl), (∀ i, i < ks.length → (f (ks.getD i 0) (cAt v i) (cAt w i)).2 = 0 → (f (ks.getD i 0) (cAt v i) (cAt w i)).1 = true) → (eqL f ks v w).2 = 0 → (eqL f ks v w).1 = true
  | [], _, _, _, _ => rfl
  | k :: ks, v, w, hf, h => by
    rw [eqL] at h ⊢
    split at h
    · rename_i h1
      rw [if_pos h1]
      refine eqL_self ks v.tail w.tail (fun i hi => ?_) h
      have e : ∀ u : List Cl, cAt u.tail i = cAt u (i + 1) := fun u => by cases u <;> simp [cAt]
      have := hf (i + 1) (by simpa using hi)
      rw [e, e]
      simpa using this
    · rename_i h1
      exact absurd (hf 0 (by simp) h) h1

/-- A list of cells with boxes of at most this depth. -/
def Dp : Nat → List Cl → Prop
  | 0, l => l = []
  | d + 1, l => ∀ i, i < l.length → Dp d (cAt l i).box
theorem Cs.dp : ∀ {d : Nat} {w : World} {a : Option Addr} {l : List Cl}, Cs d w a l → Dp d l
  | 0, _, _, _, h => h
  | _ + 1, _, _, _, h => fun i hi => by
    obtain ⟨d1, b, o, hd, _, hat⟩ := h.at_ (by omega)
    obtain ⟨ba, bc, _, hb⟩ := hat i hi
    obtain rfl : _ = d1 := by injection hd
    exact hb.dp

/-- No type of the table is a float. -/
def NoF (ts : List Ty) : Prop := ∀ t : Nat, t < ts.length → (tyAt ts t).kind ≠ 3

theorem kinds_nof {ts : List Ty} (hS : Sound ts) (h : NoF ts) : ∀ (f t : Nat), t < f → t < ts.length → ∀ k ∈ kinds ts t, k ≠ 3 := by
  intro f
  induction f with
  | zero => intro t h0; omega
  | succ f ih =>
    intro t htf ht k hk
    have hke := kinds_eq hS.2.1 (t := (t : Int)) (by omega) (by omega)
    rw [hke] at hk
    split at hk
    · simp only [List.mem_singleton] at hk
      rw [hk]; exact h t ht
    · rename_i hp
      obtain ⟨p, hp1, hp2⟩ := List.mem_flatMap.1 hk
      have hb := (hS.2.1 t ht).1.below p hp1
      obtain ⟨q, rfl⟩ : ∃ q : Nat, p = q := ⟨p.toNat, by omega⟩
      exact ih q (by omega) (by omega) k hp2

/-- Two sound values without floats: equal just where they are the same, if equality is no error. -/
theorem eqV_same {ts : List Ty} (hS : Sound ts) (h : NoF ts) : ∀ (d t : Nat) (v w : List Cl), t < ts.length → Dp d v → Okv ts d (kinds ts t) v → Okv ts d (kinds ts t) w → (eqV ts d t v w).2 = 0 → ((eqV ts d t v w).1 = true ↔ v = w) := by
  intro d
  induction d with
  | zero =>
    intro t v w ht hdv hv hw he
    have hkl := kinds_len hS.2.1 (t + 1) t (by omega) (by omega) (by omega)
    have hw1 := (sound_fit hS (i := t) (by omega)).1.w0
    obtain rfl : v = [] := hdv
    have h0 : ([] : List Cl).length = (kinds ts t).length := hv
    simp only [List.length_nil] at h0
    omega
  | succ d ih =>
    intro t v w ht hdv hv hw he
    have hlv := okv_len hv
    have hlw := okv_len hw
    have hk3 : ∀ i, i < (kinds ts t).length → (kinds ts t).getD i 0 ≠ 3 := fun i hi => by
      rw [show (kinds ts t).getD i 0 = (kinds ts t)[i] by simp [hi]]
      exact kinds_nof hS h (t + 1) t (by omega) ht _ (List.getElem_mem _)
    have hF : ∀ i, i < (kinds ts t).length → Fits ((kinds ts t).getD i 0) (cAt v i).n (cAt v i).s (cAt v i).t (cAt v i).box.length ∧ ((cAt v i).t ≠ 0 → Boxable ts (cAt v i).t ∧ Okv ts d (kinds ts ((cAt v i).t - 1)) (cAt v i).box) := fun i hi => hv.2 i (by omega)
    have hG : ∀ i, i < (kinds ts t).length → Fits ((kinds ts t).getD i 0) (cAt w i).n (cAt w i).s (cAt w i).t (cAt w i).box.length ∧ ((cAt w i).t ≠ 0 → Boxable ts (cAt w i).t ∧ Okv ts d (kinds ts ((cAt w i).t - 1)) (cAt w i).box) := fun i hi => hw.2 i (by omega)
    have hcell : ∀ i, i < (kinds ts t).length → (eqC ts (eqV ts d) ((kinds ts t).getD i 0) (cAt v i) (cAt w i)).1 = true → cAt v i = cAt w i := fun i hi hc => by
      obtain ⟨f1, f2⟩ := hF i hi
      obtain ⟨g1, g2⟩ := hG i hi
      have k3 := hk3 i hi
      have hdx := hdv i (by omega)
      generalize (kinds ts t).getD i 0 = kk at *
      generalize cAt v i = x at *
      generalize cAt w i = y at *
      obtain ⟨fs, ft, fb, _, f4, f7, _⟩ := f1
      obtain ⟨gs, gt, gb, _, g4, g7, _⟩ := g1
      unfold eqC at hc
      rw [if_neg k3] at hc
      split at hc
      · rename_i k4
        have e : x.s = y.s := by simpa using hc
        have tx := ft (by omega)
        have ty := gt (by omega)
        exact Cl.ext4 (by rw [(f4 k4).1, (g4 k4).1]) e (by rw [tx, ty]) (by rw [List.length_eq_zero_iff.1 (fb tx), List.length_eq_zero_iff.1 (gb ty)])
      · rename_i k4
        split at hc
        · rename_i k7
          split at hc
          · simp at hc
          · rename_i ht1
            have ht2 : x.t = y.t := by omega
            split at hc
            · rename_i t0
              exact Cl.ext4 (by rw [f7 k7, g7 k7]) (by rw [fs k4, gs k4]) ht2 (by rw [List.length_eq_zero_iff.1 (fb t0), List.length_eq_zero_iff.1 (gb (by omega))])
            · rename_i t0
              split at hc
              · simp at hc
              · obtain ⟨bx, ox⟩ := f2 t0
                obtain ⟨_, oy⟩ := g2 (by omega)
                have b0 := bx.1
                have b1 := bx.2.1
                obtain ⟨q, hq⟩ : ∃ q : Nat, x.t - 1 = q := ⟨(x.t - 1).toNat, by omega⟩
                rw [← ht2, hq] at oy
                rw [hq] at ox hc
                have hz : (eqV ts d q x.box y.box).2 = 0 := by rw [eqV_ok hc]
                exact Cl.ext4 (by rw [f7 k7, g7 k7]) (by rw [fs k4, gs k4]) ht2 ((ih q x.box y.box (by omega) hdx ox oy hz).1 hc)
        · rename_i k7
          have e : x.n = y.n := by simpa using hc
          have tx := ft k7
          have ty := gt k7
          exact Cl.ext4 e (by rw [fs k4, gs k4]) (by rw [tx, ty]) (by rw [List.length_eq_zero_iff.1 (fb tx), List.length_eq_zero_iff.1 (gb ty)])
    constructor
    · intro h1
      exact cells_ext (by omega) (fun i hi => hcell i (by omega) (eqL_each _ _ _ h1 i (by omega)))
    · intro e
      subst e
      refine eqL_self _ _ _ (fun i hi hc => ?_) he
      obtain ⟨_, f2⟩ := hF i hi
      have k3 := hk3 i hi
      have hdx := hdv i (by omega)
      generalize (kinds ts t).getD i 0 = kk at *
      generalize cAt v i = x at *
      unfold eqC at hc ⊢
      rw [if_neg k3] at hc ⊢
      by_cases k4 : kk = 4
      · rw [if_pos k4]; simp
      · rw [if_neg k4] at hc ⊢
        by_cases k7 : kk = 7
        · rw [if_pos k7, if_neg (by simp)] at hc ⊢
          by_cases t0 : x.t = 0
          · rw [if_pos t0]
          · rw [if_neg t0] at hc ⊢
            by_cases hcm : cmpT ts (x.t - 1) = false
            · rw [if_pos hcm] at hc; simp at hc
            · rw [if_neg hcm] at hc ⊢
              obtain ⟨bx, ox⟩ := f2 t0
              have b0 := bx.1
              have b1 := bx.2.1
              obtain ⟨q, hq⟩ : ∃ q : Nat, x.t - 1 = q := ⟨(x.t - 1).toNat, by omega⟩
              rw [hq] at ox hc ⊢
              exact (ih q x.box x.box (by omega) hdx ox ox hc).2 rfl
        · rw [if_neg k7]; simp

end Go.Proofs.YtpjcbpgfbhlioaaDoor
