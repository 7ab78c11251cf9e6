/-
  A table with an interface more: what is said of the older types and of boxed values; no statement is proved here.
-/
import Derived.Test.YtpjcbpgfbhlioaaDoorREqE
namespace Go.Proofs.YtpjcbpgfbhlioaaDoor
open Go.RowKit

def ifaceTy : Ty := ⟨7, 0, 0, 0, []⟩
theorem tyAt_left {ts us : List Ty} {t : Int} (h0 : 0 ≤ t) (h : t < ts.length) : tyAt (ts ++ us) t = tyAt ts t := by
  unfold tyAt
  simp only [List.getD]
  rw [List.getElem?_append_left (by omega)]
theorem tyAt_last (ts : List Ty) (m : Ty) : tyAt (ts ++ [m]) (ts.length : Nat) = m := by
  unfold tyAt
  simp [List.getD]

section
variable {ts : List Ty} (hS : Sound ts) (hL : Sound (ts ++ [ifaceTy]))
include hS hL

theorem kinds_long : ∀ (f t : Nat), t < f → t < ts.length → kinds (ts ++ [ifaceTy]) t = kinds ts t := by
  intro f
  induction f with
  | zero => intro t h; omega
  | succ f ih =>
    intro t htf ht
    rw [kinds_eq hS.2.1 (t := (t : Int)) (by omega) (by omega), kinds_eq hL.2.1 (t := (t : Int)) (by omega) (by simp; omega), tyAt_left (by omega) (by omega)]
    split
    · rfl
    · rename_i hne
      clear hne
      have h1 : ∀ p ∈ parts (tyAt ts t), kinds (ts ++ [ifaceTy]) p = kinds ts p := fun p hp => by
        have hb := (hS.2.1 t ht).1.below p hp
        obtain ⟨q, rfl⟩ : ∃ q : Nat, p = q := ⟨p.toNat, by omega⟩
        exact ih q (by omega) (by omega)
      generalize parts (tyAt ts t) = ps at *
      induction ps with
      | nil => rfl
      | cons p ps ih2 =>
        rw [List.flatMap_cons, List.flatMap_cons, h1 p (by simp), ih2 (fun q hq => h1 q (by simp [hq]))]
omit hS in
theorem kinds_last : kinds (ts ++ [ifaceTy]) (ts.length : Nat) = [7] := by
  rw [kinds_eq hL.2.1 (by omega) (by simp; omega), tyAt_last]
  rfl
omit hS hL in
theorem boxable_long (n : Int) : Boxable (ts ++ [ifaceTy]) n ↔ Boxable ts n := by
  unfold Boxable
  simp only [List.length_append, List.length_singleton]
  constructor
  · rintro ⟨h1, h2, h3, h4⟩
    by_cases h : n - 1 < ts.length
    · rw [tyAt_left (by omega) h] at h3 h4
      exact ⟨h1, by omega, h3, h4⟩
    · have e : n - 1 = (ts.length : Nat) := by omega
      rw [e, tyAt_last] at h3
      exact absurd rfl h3
  · rintro ⟨h1, h2, h3, h4⟩
    rw [← tyAt_left (us := [ifaceTy]) (by omega) (by omega)] at h3 h4
    exact ⟨h1, by omega, h3, h4⟩
theorem okv_long : ∀ (d : Nat) (ks : List Int) (l : List Cl), Okv (ts ++ [ifaceTy]) d ks l ↔ Okv ts d ks l := by
  intro d
  induction d with
  | zero => intro ks l; exact Iff.rfl
  | succ d ih =>
    intro ks l
    have h : ∀ c : Cl, (c.t ≠ 0 → Boxable (ts ++ [ifaceTy]) c.t ∧ Okv (ts ++ [ifaceTy]) d (kinds (ts ++ [ifaceTy]) (c.t - 1)) c.box) ↔ (c.t ≠ 0 → Boxable ts c.t ∧ Okv ts d (kinds ts (c.t - 1)) c.box) := fun c => by
      refine imp_congr_right fun _ => ?_
      rw [boxable_long]
      refine and_congr_right fun hb => ?_
      have b1 := hb.1
      have b2 := hb.2.1
      obtain ⟨q, hq⟩ : ∃ q : Nat, c.t - 1 = q := ⟨(c.t - 1).toNat, by omega⟩
      rw [hq, kinds_long hS hL (q + 1) q (by omega) (by omega)]
      exact ih _ _
    show (_ ∧ ∀ i, i < l.length → _ ∧ _) ↔ (_ ∧ ∀ i, i < l.length → _ ∧ _)
    refine and_congr_right fun _ => forall_congr' fun i => imp_congr_right fun _ => and_congr_right fun _ => h _
omit hS hL in
theorem cmp_long {t : Nat} (h : t < ts.length) : cmpT (ts ++ [ifaceTy]) t = cmpT ts t := by
  unfold cmpT
  rw [M_append ts [ifaceTy] t h]
omit hS hL in
theorem cmp_last : cmpT (ts ++ [ifaceTy]) (ts.length : Nat) = true := by
  unfold cmpT
  rw [M_take _ _ (by simp), tyAt_last]
  rfl
theorem eqV_long : ∀ (d t : Nat) (v w : List Cl), t < ts.length → Okv ts d (kinds ts t) v → Okv ts d (kinds ts t) w → eqV (ts ++ [ifaceTy]) d t v w = eqV ts d t v w := by
  intro d
  induction d with
  | zero => intro t v w _ _ _; rfl
  | succ d ih =>
    intro t v w ht hv hw
    have e1 := okv_len hv
    have e2 := okv_len hw
    show eqL (eqC (ts ++ [ifaceTy]) (eqV (ts ++ [ifaceTy]) d)) (kinds (ts ++ [ifaceTy]) t) v w = eqL (eqC ts (eqV ts d)) (kinds ts t) v w
    rw [kinds_long hS hL (t + 1) t (by omega) ht]
    refine eqL_cong _ _ _ _ _ (fun i hi => ?_)
    obtain ⟨_, f2⟩ := hv.2 i (by omega)
    obtain ⟨_, g2⟩ := hw.2 i (by omega)
    generalize (kinds ts t).getD i 0 = kk
    generalize cAt v i = x at *
    generalize cAt w i = y at *
    unfold eqC
    by_cases h1 : x.t = y.t
    · by_cases h0 : x.t = 0
      · simp only [h0, if_pos]
      · obtain ⟨bx, ox⟩ := f2 h0
        obtain ⟨_, oy⟩ := g2 (by omega)
        have b1 := bx.1
        have b2 := bx.2.1
        obtain ⟨q, hq⟩ : ∃ q : Nat, x.t - 1 = q := ⟨(x.t - 1).toNat, by omega⟩
        rw [← h1, hq] at oy
        rw [hq] at ox
        rw [hq, cmp_long (by omega), ih q x.box y.box (by omega) ox oy]
    · simp only [ne_eq, h1, not_false_eq_true, if_pos]
end

/-- A value in an interface. -/
def bxCl (t : Nat) (l : List Cl) : Cl := .mk 0 ⟨#[]⟩ ((t : Int) + 1) l

section
variable {ts : List Ty} (hS : Sound ts) (hL : Sound (ts ++ [ifaceTy]))
include hS hL

theorem box_okv (d t : Nat) (l : List Cl) (ht : t < ts.length) : Okv (ts ++ [ifaceTy]) (d + 1) [7] [bxCl t l] ↔ Boxable ts ((t : Int) + 1) ∧ Okv ts d (kinds ts t) l := by
  have hk : ((t : Int) + 1) - 1 = t := by omega
  constructor
  · intro h
    have h1 := (h.2 0 (by simp)).2 (by show (t : Int) + 1 ≠ 0; omega)
    have h2 : Boxable (ts ++ [ifaceTy]) ((t : Int) + 1) ∧ Okv (ts ++ [ifaceTy]) d (kinds (ts ++ [ifaceTy]) ((t : Int) + 1 - 1)) l := h1
    rw [hk, kinds_long hS hL (t + 1) t (by omega) ht, boxable_long, okv_long hS hL] at h2
    exact h2
  · intro h
    refine ⟨rfl, fun i hi => ?_⟩
    obtain rfl : i = 0 := by simpa using hi
    refine ⟨⟨fun _ => rfl, fun h => absurd rfl h, fun h => ?_, fun h => ?_, fun h => ?_, fun _ => rfl, fun h => ?_⟩, fun _ => ?_⟩
    · have h9 : (t : Int) + 1 = 0 := h
      omega
    · have h9 : (7 : Int) = 1 := h
      omega
    · have h9 : (7 : Int) = 4 := h
      omega
    · have h9 : (7 : Int) = 5 ∨ (7 : Int) = 6 ∨ (7 : Int) = 10 := h
      omega
    · show Boxable (ts ++ [ifaceTy]) ((t : Int) + 1) ∧ Okv (ts ++ [ifaceTy]) d (kinds (ts ++ [ifaceTy]) ((t : Int) + 1 - 1)) l
      rw [hk, kinds_long hS hL (t + 1) t (by omega) ht, boxable_long, okv_long hS hL]
      exact h
omit hS in
theorem box_bad0 : bad (ts ++ [ifaceTy]) (ts.length : Nat) = 0 := by
  unfold bad
  rw [if_pos hL, if_pos ⟨by omega, by simp; omega⟩]
theorem box_chk (d t : Nat) (l : List Cl) (ht : t < ts.length) : vchk (ts ++ [ifaceTy]) (d + 1) (ts.length : Nat) [bxCl t l] = 0 ↔ siz [bxCl t l] ≤ 256 ∧ Boxable ts ((t : Int) + 1) ∧ Okv ts d (kinds ts t) l := by
  constructor
  · intro h
    obtain ⟨_, h2, h3⟩ := vchk_zero h
    rw [kinds_last hL, box_okv hS hL d t l ht] at h3
    exact ⟨h2, h3⟩
  · intro h
    refine vchk_ok (box_bad0 hL) ⟨h.1, ?_⟩
    rw [kinds_last hL, box_okv hS hL d t l ht]
    exact h.2
omit hS in
theorem box_one {d : Nat} {v : List Cl} (h : vchk (ts ++ [ifaceTy]) d (ts.length : Nat) v ≠ 0) : vchk (ts ++ [ifaceTy]) d (ts.length : Nat) v = 1 := by
  by_cases h2 : OkV (ts ++ [ifaceTy]) d (ts.length : Nat) v
  · exact absurd (vchk_ok (box_bad0 hL) h2) h
  · exact vchk_form (box_bad0 hL) h2
omit hS in
/-- A list that is no value of the interface's type. -/
theorem box_wrong {d : Nat} {v w : List Cl} (h : vchk (ts ++ [ifaceTy]) d (ts.length : Nat) v ≠ 0 ∨ vchk (ts ++ [ifaceTy]) d (ts.length : Nat) w ≠ 0) : eqR (ts ++ [ifaceTy]) d (ts.length : Nat) v w = (false, 1) := by
  have h1 : vk2 (ts ++ [ifaceTy]) d (ts.length : Nat) v w = 1 := by
    unfold vk2 vkL
    by_cases hv : vchk (ts ++ [ifaceTy]) d (ts.length : Nat) v = 0
    · rw [if_pos hv]
      have hw := h.resolve_left (fun q => q hv)
      unfold vkL
      rw [if_neg hw]
      exact box_one hL hw
    · rw [if_neg hv]
      exact box_one hL hv
  unfold eqR
  rw [if_neg (by rw [h1]; omega), h1]
omit hS hL in
theorem box_vk2 {d : Nat} {v w : List Cl} (h1 : vchk (ts ++ [ifaceTy]) d (ts.length : Nat) v = 0) (h2 : vchk (ts ++ [ifaceTy]) d (ts.length : Nat) w = 0) : vk2 (ts ++ [ifaceTy]) d (ts.length : Nat) v w = 0 := by
  unfold vk2 vkL
  rw [if_pos h1]
  unfold vkL
  rw [if_pos h2]
  unfold vkL
  rw [if_pos cmp_last]
/-- Two values in interfaces. -/
theorem box_eq {d t : Nat} {l m : List Cl} (ht : t < ts.length) (h1 : vchk (ts ++ [ifaceTy]) (d + 1) (ts.length : Nat) [bxCl t l] = 0) (h2 : vchk (ts ++ [ifaceTy]) (d + 1) (ts.length : Nat) [bxCl t m] = 0) :
    (cmpT ts t = false → eqR (ts ++ [ifaceTy]) (d + 1) (ts.length : Nat) [bxCl t l] [bxCl t m] = (false, 11) ∧ eqR ts d t l m = (false, 3)) ∧
    (cmpT ts t = true → eqR (ts ++ [ifaceTy]) (d + 1) (ts.length : Nat) [bxCl t l] [bxCl t m] = eqR ts d t l m ∧ eqR ts d t l m = eqV ts d t l m) := by
  obtain ⟨s1, b1, o1⟩ := (box_chk hS hL d t l ht).1 h1
  obtain ⟨s2, _, o2⟩ := (box_chk hS hL d t m ht).1 h2
  have hb : bad ts t = 0 := by unfold bad; rw [if_pos hS, if_pos ⟨by omega, by omega⟩]
  have hsz : ∀ x : List Cl, siz [bxCl t x] ≤ 256 → siz x ≤ 256 := fun x hx => by
    unfold siz at hx ⊢
    have : totL [bxCl t x] = 1 + totL x := by
      simp only [totL, totC_eq]
      rfl
    rw [this] at hx
    omega
  have c1 : vchk ts d t l = 0 := vchk_ok hb ⟨hsz l s1, o1⟩
  have c2 : vchk ts d t m = 0 := vchk_ok hb ⟨hsz m s2, o2⟩
  have he : eqR (ts ++ [ifaceTy]) (d + 1) (ts.length : Nat) [bxCl t l] [bxCl t m] = if cmpT ts t = false then (false, 11) else eqV ts d t l m := by
    unfold eqR
    rw [if_pos (box_vk2 h1 h2)]
    show eqL _ (kinds (ts ++ [ifaceTy]) (ts.length : Nat)) _ _ = _
    rw [kinds_last hL, eqL_one1]
    show eqC (ts ++ [ifaceTy]) (eqV (ts ++ [ifaceTy]) d) 7 (bxCl t l) (bxCl t m) = _
    unfold eqC
    rw [if_neg (by omega), if_neg (by omega), if_pos rfl, if_neg (by simp [bxCl, Cl.t]), if_neg (by show ¬ ((t : Int) + 1 = 0); omega)]
    show (if cmpT (ts ++ [ifaceTy]) ((t : Int) + 1 - 1) = false then (false, 11) else eqV (ts ++ [ifaceTy]) d ((t : Int) + 1 - 1) l m) = _
    rw [show (t : Int) + 1 - 1 = t by omega, cmp_long ht, eqV_long hS hL d t l m ht o1 o2]
  have hv : vk2 ts d t l m = if cmpT ts t then 0 else 3 := by
    unfold vk2 vkL
    rw [if_pos c1]
    unfold vkL
    rw [if_pos c2]
    rfl
  constructor
  · intro hc
    rw [hc] at hv
    refine ⟨by rw [he, if_pos hc], ?_⟩
    have hv3 : vk2 ts d t l m = 3 := hv
    unfold eqR
    rw [if_neg (by rw [hv3]; omega), hv3]
  · intro hc
    rw [hc] at hv
    have hv0 : vk2 ts d t l m = 0 := hv
    have e2 : eqR ts d t l m = eqV ts d t l m := by unfold eqR; rw [if_pos hv0]
    exact ⟨by rw [he, if_neg (by rw [hc]; simp), e2], e2⟩
omit hS in
/-- Values of two types in interfaces. -/
theorem box_other {d t t' : Nat} {l m : List Cl} (hne : t ≠ t') (h1 : vchk (ts ++ [ifaceTy]) (d + 1) (ts.length : Nat) [bxCl t l] = 0) (h2 : vchk (ts ++ [ifaceTy]) (d + 1) (ts.length : Nat) [bxCl t' m] = 0) :
    eqR (ts ++ [ifaceTy]) (d + 1) (ts.length : Nat) [bxCl t l] [bxCl t' m] = (false, 0) := by
  unfold eqR
  rw [if_pos (box_vk2 h1 h2)]
  show eqL _ (kinds (ts ++ [ifaceTy]) (ts.length : Nat)) _ _ = _
  rw [kinds_last hL, eqL_one1]
  show eqC (ts ++ [ifaceTy]) (eqV (ts ++ [ifaceTy]) d) 7 (bxCl t l) (bxCl t' m) = _
  unfold eqC
  rw [if_neg (by omega), if_neg (by omega), if_pos rfl, if_pos (by show (t : Int) + 1 ≠ (t' : Int) + 1; omega)]
end

end Go.Proofs.YtpjcbpgfbhlioaaDoor
