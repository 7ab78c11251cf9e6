/-
  EqualOrder, walked through; its frame is in LawOrder.
-/
import Derived.Test.YtpjcbpgfbhlioaaDoorPartM
import Derived.Deep.Cut
namespace Go.Proofs.YtpjcbpgfbhlioaaDoor
open Go.RowKit

set_option maxRecDepth 100000 in
set_option maxHeartbeats 16000000 in
theorem order_walk (ts : List Ty) (ta : Option Addr) (tn tc : Nat) (htn : ts.length = tn) (d : Nat) (t : Int) (a : Option Addr) (l : List Cl) (c : Nat) (am : Option Addr) (m : List Cl) (mc : Nat) (ax : Option Addr) (x : List Cl) (xc : Nat) (w : World) (hC : Cs d w a l) (hlc : l.length ≤ c) (hM : Cs d w am m) (hmc : m.length ≤ mc) (hX : Cs d w ax x) (hT : Tab w ta ts) (hG : Gl w) :
    Calls Tryd.prog 5 #[.agg #[.slice ta tn tc, .int .i64 t, .slice a l.length c], .slice am m.length mc, .slice ax x.length xc] w (SayPost w (.bool true)) := by
  have hE0 := Ext.alloc [] w (.cells #[.slice ta tn tc, .int .i64 t, .slice a l.length c] 25)
  have hb0 := heap_alloc_new w (.cells #[.slice ta tn tc, .int .i64 t, .slice a l.length c] 25)
  have KA := awake_any (w.alloc (.cells #[.slice ta tn tc, .int .i64 t, .slice a l.length c] 25))
  have HQ : Hid (∀ u, Ext [] (w.alloc (.cells #[.slice ta tn tc, .int .i64 t, .slice a l.length c] 25)) u → u.cell? ⟨w.heap.size, 0, none⟩ = some (.slice ta tn tc) ∧ u.cell? ⟨w.heap.size, 1, none⟩ = some (.int .i64 t) ∧ u.cell? ⟨w.heap.size, 2, none⟩ = some (.slice a l.length c)) := fun u hu =>
    ⟨hu.cell (by rw [cell_of_row _ _ _ _ _ _ hb0]; rfl) (by simp), hu.cell (by rw [cell_of_row _ _ _ _ _ _ hb0]; rfl) (by simp), hu.cell (by rw [cell_of_row _ _ _ _ _ _ hb0]; rfl) (by simp)⟩
  have HE0 := hid hE0
  have KT : ∀ u, Ext [] w u → Calls Tryd.prog 13 #[.slice ta tn tc] u (fun e w' => ∃ at1 ct1, e = .returned (.slice at1 tn ct1) ∧ tn ≤ ct1 ∧ Tab w' at1 ts ∧ Ext [] u w') := fun u hu => (copy_any ta ts tn tc u (hT.keep0 hu) htn).mono (by rintro e w' ⟨a1, c1, G, h1, h2, _, h4, h5⟩; exact ⟨a1, c1, h1, h2, h4, h5⟩)
  have KV : ∀ u, Ext [] w u → Calls Tryd.prog 14 #[.slice a l.length c] u (fun e w' => ∃ av1 cv1, e = .returned (.slice av1 l.length cv1) ∧ Cs d w' av1 l ∧ Ext [] u w') := fun u hu => (rcopy_any d a l _ c u (hC.keep0 hu) rfl).mono (by rintro e w' ⟨a1, c1, h1, _, h2, h3⟩; exact ⟨a1, c1, h1, h2.cs, h3⟩)
  have KM : ∀ u, Ext [] w u → Calls Tryd.prog 14 #[.slice am m.length mc] u (fun e w' => ∃ am1 cm1, e = .returned (.slice am1 m.length cm1) ∧ Cs d w' am1 m ∧ Ext [] u w') := fun u hu => (rcopy_any d am m _ mc u (hM.keep0 hu) rfl).mono (by rintro e w' ⟨a1, c1, h1, _, h2, h3⟩; exact ⟨a1, c1, h1, h2.cs, h3⟩)
  have KX : ∀ u, Ext [] w u → Calls Tryd.prog 14 #[.slice ax x.length xc] u (fun e w' => ∃ ax1 cx1, e = .returned (.slice ax1 x.length cx1) ∧ Cs d w' ax1 x ∧ Ext [] u w') := fun u hu => (rcopy_any d ax x _ xc u (hX.keep0 hu) rfl).mono (by rintro e w' ⟨a1, c1, h1, _, h2, h3⟩; exact ⟨a1, c1, h1, h2.cs, h3⟩)
  have KE1 : ∀ u, Ext [] w u → ∀ at1 ct1, tn ≤ ct1 → ∀ a1 c1 a2 c2, Tab u at1 ts → Cs d u a1 l → Cs d u a2 m → Calls Tryd.prog 12 #[.slice at1 tn ct1, .int .i64 t, .slice a1 l.length c1, .slice a2 m.length c2] u (SayPost u (paV (eqR ts d t l m))) := fun u hu at1 ct1 hct a1 c1 a2 c2 h1 h2 h3 => by
    have K := equal_any ts at1 tn ct1 htn hct d t a1 l c1 a2 m c2 u h2 h3 h1 (hG.keep0 hu)
    first | exact K | (rw [eqR_symm] at K; exact K)
  have KE2 : ∀ u, Ext [] w u → ∀ at1 ct1, tn ≤ ct1 → ∀ a1 c1 a2 c2, Tab u at1 ts → Cs d u a1 m → Cs d u a2 l → Calls Tryd.prog 12 #[.slice at1 tn ct1, .int .i64 t, .slice a1 m.length c1, .slice a2 l.length c2] u (SayPost u (paV (eqR ts d t l m))) := fun u hu at1 ct1 hct a1 c1 a2 c2 h1 h2 h3 => by
    have K := equal_any ts at1 tn ct1 htn hct d t a1 m c1 a2 l c2 u h2 h3 h1 (hG.keep0 hu)
    first | exact K | (rw [eqR_symm] at K; exact K)
  have KE3 : ∀ u, Ext [] w u → ∀ at1 ct1, tn ≤ ct1 → ∀ a1 c1 a2 c2, Tab u at1 ts → Cs d u a1 m → Cs d u a2 x → Calls Tryd.prog 12 #[.slice at1 tn ct1, .int .i64 t, .slice a1 m.length c1, .slice a2 x.length c2] u (SayPost u (paV (eqR ts d t m x))) := fun u hu at1 ct1 hct a1 c1 a2 c2 h1 h2 h3 => by
    have K := equal_any ts at1 tn ct1 htn hct d t a1 m c1 a2 x c2 u h2 h3 h1 (hG.keep0 hu)
    first | exact K | (rw [eqR_symm] at K; exact K)
  have KE4 : ∀ u, Ext [] w u → ∀ at1 ct1, tn ≤ ct1 → ∀ a1 c1 a2 c2, Tab u at1 ts → Cs d u a1 l → Cs d u a2 x → Calls Tryd.prog 12 #[.slice at1 tn ct1, .int .i64 t, .slice a1 l.length c1, .slice a2 x.length c2] u (SayPost u (paV (eqR ts d t l x))) := fun u hu at1 ct1 hct a1 c1 a2 c2 h1 h2 h3 => by
    have K := equal_any ts at1 tn ct1 htn hct d t a1 l c1 a2 x c2 u h2 h3 h1 (hG.keep0 hu)
    first | exact K | (rw [eqR_symm] at K; exact K)
  have HTr : Hid ((eqR ts d t l m).1 = true → (eqR ts d t m x).1 = true → (eqR ts d t l x).1 = true) := fun h1 h2 => eqR_trans h1 h2
  have HZ : Hid ((eqR ts d t l m).1 = true → (eqR ts d t l m).2 = 0) := fun h => by rw [eqR_err h]
  have HP : Hid ((eqR ts d t l m).1 = true → ∀ q : Nat, t = q → ∀ i, i < (parts (tyAt ts q)).length → ∃ k : Nat, (parts (tyAt ts q)).getD i 0 = k ∧ k < ts.length ∧ pb ts q i ≤ pb ts q (i + 1) ∧ pb ts q (i + 1) ≤ l.length ∧ pb ts q (i + 1) ≤ m.length ∧ offs ts q i = pb ts q i ∧ offs ts q (i + 1) = pb ts q (i + 1) ∧ eqR ts d k (partL ts q l i) (partL ts q m i) = (true, 0)) := fun h q hq i hi => by subst hq; exact eq_part h hi
  have HS : Hid ((eqR ts d t l m).1 = true → Sound ts ∧ 0 ≤ t ∧ t < ts.length) := fun h => by
    unfold eqR at h
    split at h
    · rename_i z
      exact bad_zero (vchk_zero (vk2_zero z).1).1
    · simp at h
  have HL1 : Hid ((eqR ts d t l m).1 = true → ∀ q : Nat, t = q → ∀ i, i < (parts (tyAt ts q)).length → (0 < l.length ∧ 0 < m.length) ∧ pb ts q i < pb ts q (i + 1)) := fun h q hq i hi => by
    subst hq
    unfold eqR at h
    split at h
    · rename_i z
      exact ⟨⟨(offs_facts (vk2_zero z).1 hi).2.2.2.2.1, (offs_facts (vk2_zero z).2.1 hi).2.2.2.2.1⟩, (offs_facts (vk2_zero z).1 hi).2.2.1⟩
    · simp at h
  unfold paV at KE1 KE2 KE3 KE4
  have HC := hid hC
  have HM := hid hM
  have HT := hid hT
  have HG := hid hG
  have HTN := hid htn
  have hlen1 := hC.len
  have hlen2 := hM.len
  clear hC hM hX hT hG hE0 hb0 htn
  generalize (eqR ts d t l m).1 = ab at *
  generalize (eqR ts d t l m).2 = ee at *
  generalize (eqR ts d t m x).1 = bcc at *
  generalize (eqR ts d t m x).2 = ge at *
  generalize (eqR ts d t l x).1 = ac at *
  generalize (eqR ts d t l x).2 = he at *
  go_enter Tryd.func5, Tryd.ntmps5
  go_upto_region 3 with (go_at_call 9; refine KA.mono ?_; clear KA; rintro e w1 ⟨rfl, hE1⟩)
  have hX_w1 : Ext [] w w1 := HE0.out.trans hE1
  obtain ⟨q0, q1, q2⟩ := HQ.out w1 hE1
  clear hE1 HQ HE0
  generalize w.heap.size = qb at *
  go_region_held3 (fun u => u.cell? ⟨qb, 0, none⟩ = some (.slice ta tn tc) ∧ u.cell? ⟨qb, 1, none⟩ = some (.int .i64 t) ∧ u.cell? ⟨qb, 2, none⟩ = some (.slice a l.length c))
    (first | exact ⟨Ext.cell (by (repeat (first | (with_reducible exact Ext.refl [] _) | (with_reducible exact Ext.drew [] _) | (with_reducible assumption) | (with_reducible refine Ext.trans ?_ (Ext.drew [] _)) | (with_reducible refine Ext.trans ?_ (by assumption)) | fail "no chain"))) q0 (by simp), Ext.cell (by (repeat (first | (with_reducible exact Ext.refl [] _) | (with_reducible exact Ext.drew [] _) | (with_reducible assumption) | (with_reducible refine Ext.trans ?_ (Ext.drew [] _)) | (with_reducible refine Ext.trans ?_ (by assumption)) | fail "no chain"))) q1 (by simp), Ext.cell (by (repeat (first | (with_reducible exact Ext.refl [] _) | (with_reducible exact Ext.drew [] _) | (with_reducible assumption) | (with_reducible refine Ext.trans ?_ (Ext.drew [] _)) | (with_reducible refine Ext.trans ?_ (by assumption)) | fail "no chain"))) q2 (by simp)⟩ | go_keep)
    (first
      | (go_at_call 13; (with_reducible refine Calls.mono (KT _ ?_) ?_); (repeat (first | (with_reducible exact Ext.refl [] _) | (with_reducible exact Ext.drew [] _) | (with_reducible assumption) | (with_reducible refine Ext.trans ?_ (Ext.drew [] _)) | (with_reducible refine Ext.trans ?_ (by assumption)) | fail "no chain")); rintro e wt ⟨at1, ct1, rfl, hct, hTC, hEt⟩)
      | (go_at_call 14; (with_reducible refine Calls.mono (KV _ ?_) ?_); (repeat (first | (with_reducible exact Ext.refl [] _) | (with_reducible exact Ext.drew [] _) | (with_reducible assumption) | (with_reducible refine Ext.trans ?_ (Ext.drew [] _)) | (with_reducible refine Ext.trans ?_ (by assumption)) | fail "no chain")); rintro e wv ⟨av1, cv1, rfl, hCo, hEv⟩)
      | (go_at_call 14; (with_reducible refine Calls.mono (KM _ ?_) ?_); (repeat (first | (with_reducible exact Ext.refl [] _) | (with_reducible exact Ext.drew [] _) | (with_reducible assumption) | (with_reducible refine Ext.trans ?_ (Ext.drew [] _)) | (with_reducible refine Ext.trans ?_ (by assumption)) | fail "no chain")); rintro e wm ⟨am1, cm1, rfl, hCm, hEm⟩)
      | (go_at_call 12; refine Calls.mono (KE1 _ ?_ at1 ct1 hct av1 cv1 am1 cm1 (hTC.keep0 ?_) (hCo.keep0 ?_) (hCm.keep0 ?_)) ?_; (repeat (first | (with_reducible exact Ext.refl [] _) | (with_reducible exact Ext.drew [] _) | (with_reducible assumption) | (with_reducible refine Ext.trans ?_ (Ext.drew [] _)) | (with_reducible refine Ext.trans ?_ (by assumption)) | fail "no chain")); (repeat (first | (with_reducible exact Ext.refl [] _) | (with_reducible exact Ext.drew [] _) | (with_reducible assumption) | (with_reducible refine Ext.trans ?_ (Ext.drew [] _)) | (with_reducible refine Ext.trans ?_ (by assumption)) | fail "no chain")); (repeat (first | (with_reducible exact Ext.refl [] _) | (with_reducible exact Ext.drew [] _) | (with_reducible assumption) | (with_reducible refine Ext.trans ?_ (Ext.drew [] _)) | (with_reducible refine Ext.trans ?_ (by assumption)) | fail "no chain")); (repeat (first | (with_reducible exact Ext.refl [] _) | (with_reducible exact Ext.drew [] _) | (with_reducible assumption) | (with_reducible refine Ext.trans ?_ (Ext.drew [] _)) | (with_reducible refine Ext.trans ?_ (by assumption)) | fail "no chain")); rintro e w2 ⟨rfl, hEr⟩)
      | fail "no arm")
  rename_i hHeld
  clear q0 q1 q2
  obtain ⟨q0, q1, q2⟩ := hHeld
  have hX_w2 : Ext [] w w2 := by (repeat (first | (with_reducible exact Ext.refl [] _) | (with_reducible exact Ext.drew [] _) | (with_reducible assumption) | (with_reducible refine Ext.trans ?_ (Ext.drew [] _)) | (with_reducible refine Ext.trans ?_ (by assumption)) | fail "no chain"))
  clear hEt hEv hEm hEr hTC hCo hCm hct hX_w1 KE1
  go_upto_region 4 with fail
  go_region_held3 (fun u => u.cell? ⟨qb, 0, none⟩ = some (.slice ta tn tc) ∧ u.cell? ⟨qb, 1, none⟩ = some (.int .i64 t) ∧ u.cell? ⟨qb, 2, none⟩ = some (.slice a l.length c))
    (first | exact ⟨Ext.cell (by (repeat (first | (with_reducible exact Ext.refl [] _) | (with_reducible exact Ext.drew [] _) | (with_reducible assumption) | (with_reducible refine Ext.trans ?_ (Ext.drew [] _)) | (with_reducible refine Ext.trans ?_ (by assumption)) | fail "no chain"))) q0 (by simp), Ext.cell (by (repeat (first | (with_reducible exact Ext.refl [] _) | (with_reducible exact Ext.drew [] _) | (with_reducible assumption) | (with_reducible refine Ext.trans ?_ (Ext.drew [] _)) | (with_reducible refine Ext.trans ?_ (by assumption)) | fail "no chain"))) q1 (by simp), Ext.cell (by (repeat (first | (with_reducible exact Ext.refl [] _) | (with_reducible exact Ext.drew [] _) | (with_reducible assumption) | (with_reducible refine Ext.trans ?_ (Ext.drew [] _)) | (with_reducible refine Ext.trans ?_ (by assumption)) | fail "no chain"))) q2 (by simp)⟩ | go_keep)
    (first
      | (go_at_call 13; (with_reducible refine Calls.mono (KT _ ?_) ?_); (repeat (first | (with_reducible exact Ext.refl [] _) | (with_reducible exact Ext.drew [] _) | (with_reducible assumption) | (with_reducible refine Ext.trans ?_ (Ext.drew [] _)) | (with_reducible refine Ext.trans ?_ (by assumption)) | fail "no chain")); rintro e wt ⟨at1, ct1, rfl, hct, hTC, hEt⟩)
      | (go_at_call 14; (with_reducible refine Calls.mono (KM _ ?_) ?_); (repeat (first | (with_reducible exact Ext.refl [] _) | (with_reducible exact Ext.drew [] _) | (with_reducible assumption) | (with_reducible refine Ext.trans ?_ (Ext.drew [] _)) | (with_reducible refine Ext.trans ?_ (by assumption)) | fail "no chain")); rintro e wm ⟨am1, cm1, rfl, hCm, hEm⟩)
      | (go_at_call 14; (with_reducible refine Calls.mono (KV _ ?_) ?_); (repeat (first | (with_reducible exact Ext.refl [] _) | (with_reducible exact Ext.drew [] _) | (with_reducible assumption) | (with_reducible refine Ext.trans ?_ (Ext.drew [] _)) | (with_reducible refine Ext.trans ?_ (by assumption)) | fail "no chain")); rintro e wv ⟨av1, cv1, rfl, hCo, hEv⟩)
      | (go_at_call 12; refine Calls.mono (KE2 _ ?_ at1 ct1 hct am1 cm1 av1 cv1 (hTC.keep0 ?_) (hCm.keep0 ?_) (hCo.keep0 ?_)) ?_; (repeat (first | (with_reducible exact Ext.refl [] _) | (with_reducible exact Ext.drew [] _) | (with_reducible assumption) | (with_reducible refine Ext.trans ?_ (Ext.drew [] _)) | (with_reducible refine Ext.trans ?_ (by assumption)) | fail "no chain")); (repeat (first | (with_reducible exact Ext.refl [] _) | (with_reducible exact Ext.drew [] _) | (with_reducible assumption) | (with_reducible refine Ext.trans ?_ (Ext.drew [] _)) | (with_reducible refine Ext.trans ?_ (by assumption)) | fail "no chain")); (repeat (first | (with_reducible exact Ext.refl [] _) | (with_reducible exact Ext.drew [] _) | (with_reducible assumption) | (with_reducible refine Ext.trans ?_ (Ext.drew [] _)) | (with_reducible refine Ext.trans ?_ (by assumption)) | fail "no chain")); (repeat (first | (with_reducible exact Ext.refl [] _) | (with_reducible exact Ext.drew [] _) | (with_reducible assumption) | (with_reducible refine Ext.trans ?_ (Ext.drew [] _)) | (with_reducible refine Ext.trans ?_ (by assumption)) | fail "no chain")); rintro e w3 ⟨rfl, hEr⟩)
      | fail "no arm")
  rename_i hHeld
  clear q0 q1 q2
  obtain ⟨q0, q1, q2⟩ := hHeld
  have hX_w3 : Ext [] w w3 := by (repeat (first | (with_reducible exact Ext.refl [] _) | (with_reducible exact Ext.drew [] _) | (with_reducible assumption) | (with_reducible refine Ext.trans ?_ (Ext.drew [] _)) | (with_reducible refine Ext.trans ?_ (by assumption)) | fail "no chain"))
  clear hEt hEv hEm hEr hTC hCo hCm hct hX_w2 KE2
  go_upto_region 5 with fail
  go_region_held3 (fun u => u.cell? ⟨qb, 0, none⟩ = some (.slice ta tn tc) ∧ u.cell? ⟨qb, 1, none⟩ = some (.int .i64 t) ∧ u.cell? ⟨qb, 2, none⟩ = some (.slice a l.length c))
    (first | exact ⟨Ext.cell (by (repeat (first | (with_reducible exact Ext.refl [] _) | (with_reducible exact Ext.drew [] _) | (with_reducible assumption) | (with_reducible refine Ext.trans ?_ (Ext.drew [] _)) | (with_reducible refine Ext.trans ?_ (by assumption)) | fail "no chain"))) q0 (by simp), Ext.cell (by (repeat (first | (with_reducible exact Ext.refl [] _) | (with_reducible exact Ext.drew [] _) | (with_reducible assumption) | (with_reducible refine Ext.trans ?_ (Ext.drew [] _)) | (with_reducible refine Ext.trans ?_ (by assumption)) | fail "no chain"))) q1 (by simp), Ext.cell (by (repeat (first | (with_reducible exact Ext.refl [] _) | (with_reducible exact Ext.drew [] _) | (with_reducible assumption) | (with_reducible refine Ext.trans ?_ (Ext.drew [] _)) | (with_reducible refine Ext.trans ?_ (by assumption)) | fail "no chain"))) q2 (by simp)⟩ | go_keep)
    (first
      | (go_at_call 13; (with_reducible refine Calls.mono (KT _ ?_) ?_); (repeat (first | (with_reducible exact Ext.refl [] _) | (with_reducible exact Ext.drew [] _) | (with_reducible assumption) | (with_reducible refine Ext.trans ?_ (Ext.drew [] _)) | (with_reducible refine Ext.trans ?_ (by assumption)) | fail "no chain")); rintro e wt ⟨at1, ct1, rfl, hct, hTC, hEt⟩)
      | (go_at_call 14; (with_reducible refine Calls.mono (KM _ ?_) ?_); (repeat (first | (with_reducible exact Ext.refl [] _) | (with_reducible exact Ext.drew [] _) | (with_reducible assumption) | (with_reducible refine Ext.trans ?_ (Ext.drew [] _)) | (with_reducible refine Ext.trans ?_ (by assumption)) | fail "no chain")); rintro e wm ⟨am1, cm1, rfl, hCm, hEm⟩)
      | (go_at_call 14; (with_reducible refine Calls.mono (KX _ ?_) ?_); (repeat (first | (with_reducible exact Ext.refl [] _) | (with_reducible exact Ext.drew [] _) | (with_reducible assumption) | (with_reducible refine Ext.trans ?_ (Ext.drew [] _)) | (with_reducible refine Ext.trans ?_ (by assumption)) | fail "no chain")); rintro e wx ⟨ax1, cx1, rfl, hCx, hEx⟩)
      | (go_at_call 12; refine Calls.mono (KE3 _ ?_ at1 ct1 hct am1 cm1 ax1 cx1 (hTC.keep0 ?_) (hCm.keep0 ?_) (hCx.keep0 ?_)) ?_; (repeat (first | (with_reducible exact Ext.refl [] _) | (with_reducible exact Ext.drew [] _) | (with_reducible assumption) | (with_reducible refine Ext.trans ?_ (Ext.drew [] _)) | (with_reducible refine Ext.trans ?_ (by assumption)) | fail "no chain")); (repeat (first | (with_reducible exact Ext.refl [] _) | (with_reducible exact Ext.drew [] _) | (with_reducible assumption) | (with_reducible refine Ext.trans ?_ (Ext.drew [] _)) | (with_reducible refine Ext.trans ?_ (by assumption)) | fail "no chain")); (repeat (first | (with_reducible exact Ext.refl [] _) | (with_reducible exact Ext.drew [] _) | (with_reducible assumption) | (with_reducible refine Ext.trans ?_ (Ext.drew [] _)) | (with_reducible refine Ext.trans ?_ (by assumption)) | fail "no chain")); (repeat (first | (with_reducible exact Ext.refl [] _) | (with_reducible exact Ext.drew [] _) | (with_reducible assumption) | (with_reducible refine Ext.trans ?_ (Ext.drew [] _)) | (with_reducible refine Ext.trans ?_ (by assumption)) | fail "no chain")); rintro e w4 ⟨rfl, hEr⟩)
      | fail "no arm")
  rename_i hHeld
  clear q0 q1 q2
  obtain ⟨q0, q1, q2⟩ := hHeld
  have hX_w4 : Ext [] w w4 := by (repeat (first | (with_reducible exact Ext.refl [] _) | (with_reducible exact Ext.drew [] _) | (with_reducible assumption) | (with_reducible refine Ext.trans ?_ (Ext.drew [] _)) | (with_reducible refine Ext.trans ?_ (by assumption)) | fail "no chain"))
  clear hEt hEm hEx hEr hTC hCm hCx hct hX_w3 KE3
  go_upto_region 6 with fail
  go_region_held3 (fun u => u.cell? ⟨qb, 0, none⟩ = some (.slice ta tn tc) ∧ u.cell? ⟨qb, 1, none⟩ = some (.int .i64 t) ∧ u.cell? ⟨qb, 2, none⟩ = some (.slice a l.length c))
    (first | exact ⟨Ext.cell (by (repeat (first | (with_reducible exact Ext.refl [] _) | (with_reducible exact Ext.drew [] _) | (with_reducible assumption) | (with_reducible refine Ext.trans ?_ (Ext.drew [] _)) | (with_reducible refine Ext.trans ?_ (by assumption)) | fail "no chain"))) q0 (by simp), Ext.cell (by (repeat (first | (with_reducible exact Ext.refl [] _) | (with_reducible exact Ext.drew [] _) | (with_reducible assumption) | (with_reducible refine Ext.trans ?_ (Ext.drew [] _)) | (with_reducible refine Ext.trans ?_ (by assumption)) | fail "no chain"))) q1 (by simp), Ext.cell (by (repeat (first | (with_reducible exact Ext.refl [] _) | (with_reducible exact Ext.drew [] _) | (with_reducible assumption) | (with_reducible refine Ext.trans ?_ (Ext.drew [] _)) | (with_reducible refine Ext.trans ?_ (by assumption)) | fail "no chain"))) q2 (by simp)⟩ | go_keep)
    (first
      | (go_at_call 13; (with_reducible refine Calls.mono (KT _ ?_) ?_); (repeat (first | (with_reducible exact Ext.refl [] _) | (with_reducible exact Ext.drew [] _) | (with_reducible assumption) | (with_reducible refine Ext.trans ?_ (Ext.drew [] _)) | (with_reducible refine Ext.trans ?_ (by assumption)) | fail "no chain")); rintro e wt ⟨at1, ct1, rfl, hct, hTC, hEt⟩)
      | (go_at_call 14; (with_reducible refine Calls.mono (KV _ ?_) ?_); (repeat (first | (with_reducible exact Ext.refl [] _) | (with_reducible exact Ext.drew [] _) | (with_reducible assumption) | (with_reducible refine Ext.trans ?_ (Ext.drew [] _)) | (with_reducible refine Ext.trans ?_ (by assumption)) | fail "no chain")); rintro e wv ⟨av1, cv1, rfl, hCo, hEv⟩)
      | (go_at_call 14; (with_reducible refine Calls.mono (KX _ ?_) ?_); (repeat (first | (with_reducible exact Ext.refl [] _) | (with_reducible exact Ext.drew [] _) | (with_reducible assumption) | (with_reducible refine Ext.trans ?_ (Ext.drew [] _)) | (with_reducible refine Ext.trans ?_ (by assumption)) | fail "no chain")); rintro e wx ⟨ax1, cx1, rfl, hCx, hEx⟩)
      | (go_at_call 12; refine Calls.mono (KE4 _ ?_ at1 ct1 hct av1 cv1 ax1 cx1 (hTC.keep0 ?_) (hCo.keep0 ?_) (hCx.keep0 ?_)) ?_; (repeat (first | (with_reducible exact Ext.refl [] _) | (with_reducible exact Ext.drew [] _) | (with_reducible assumption) | (with_reducible refine Ext.trans ?_ (Ext.drew [] _)) | (with_reducible refine Ext.trans ?_ (by assumption)) | fail "no chain")); (repeat (first | (with_reducible exact Ext.refl [] _) | (with_reducible exact Ext.drew [] _) | (with_reducible assumption) | (with_reducible refine Ext.trans ?_ (Ext.drew [] _)) | (with_reducible refine Ext.trans ?_ (by assumption)) | fail "no chain")); (repeat (first | (with_reducible exact Ext.refl [] _) | (with_reducible exact Ext.drew [] _) | (with_reducible assumption) | (with_reducible refine Ext.trans ?_ (Ext.drew [] _)) | (with_reducible refine Ext.trans ?_ (by assumption)) | fail "no chain")); (repeat (first | (with_reducible exact Ext.refl [] _) | (with_reducible exact Ext.drew [] _) | (with_reducible assumption) | (with_reducible refine Ext.trans ?_ (Ext.drew [] _)) | (with_reducible refine Ext.trans ?_ (by assumption)) | fail "no chain")); rintro e w5 ⟨rfl, hEr⟩)
      | fail "no arm")
  rename_i hHeld
  clear q0 q1 q2
  obtain ⟨q0, q1, q2⟩ := hHeld
  have hX_w5 : Ext [] w w5 := by (repeat (first | (with_reducible exact Ext.refl [] _) | (with_reducible exact Ext.drew [] _) | (with_reducible assumption) | (with_reducible refine Ext.trans ?_ (Ext.drew [] _)) | (with_reducible refine Ext.trans ?_ (by assumption)) | fail "no chain"))
  clear hEt hEv hEx hEr hTC hCo hCx hct hX_w4 KE4 KV KM KX
  have HX5 := hid hX_w5
  clear hX_w5
  go_upto_region 7 with fail
  have bee : (ee == ee) = true := by simp
  go_cut [108] from 79 (fun q wc => q = .bool false ∧ w5 = wc)
  case first =>
    clear KT HP HS HC HM HT HG HL1
    cases ab
    · clear HTr HZ
      by_cases h1 : ee = 0
      · subst h1
        by_cases h2 : ge = 0
        · subst h2
          by_cases h3 : he = 0
          · subst h3
            go_wp2_with fail
            go_meet
            exact ⟨rfl, rfl⟩
          · have b3 : (he == 0) = false := by simpa using h3
            go_wp2_with fail
            go_meet
            exact ⟨rfl, rfl⟩
        · have b2 : (ge == 0) = false := by simpa using h2
          go_wp2_with fail
          go_meet
          exact ⟨rfl, rfl⟩
      · have b1 : (ee == 0) = false := by simpa using h1
        go_wp2_with fail
        go_meet
        exact ⟨rfl, rfl⟩
    · have h1 := HZ.out rfl
      subst h1
      clear HZ
      by_cases h2 : ge = 0
      · subst h2
        by_cases h3 : he = 0
        · subst h3
          cases bcc
          · clear HTr
            go_wp2_with fail
            go_meet
            exact ⟨rfl, rfl⟩
          · have h4 := HTr.out rfl rfl
            subst h4
            clear HTr
            go_wp2_with fail
            go_meet
            exact ⟨rfl, rfl⟩
        · have b3 : (he == 0) = false := by simpa using h3
          clear HTr
          go_wp2_with fail
          go_meet
          exact ⟨rfl, rfl⟩
      · have b2 : (ge == 0) = false := by simpa using h2
        clear HTr
        go_wp2_with fail
        go_meet
        exact ⟨rfl, rfl⟩
  case rest =>
    obtain ⟨rfl, rfl⟩ := hcut
    clear HTr bee
    cases ab
    · clear KT HP HS HC HM HT HG HZ HL1
      by_cases h1 : ee = 0
      · subst h1
        go_wp2_with fail
        go_ret
        exact ⟨rfl, HX5.out⟩
      · have b1 : (ee == 0) = false := by simpa using h1
        go_wp2_with fail
        go_ret
        exact ⟨rfl, HX5.out⟩
    · have h1 := HZ.out rfl
      subst h1
      obtain ⟨hS, t0, t1⟩ := HS.out rfl
      obtain ⟨q, rfl⟩ : ∃ q : Nat, t = q := ⟨t.toNat, by omega⟩
      replace HP := hid (HP.out rfl q rfl)
      have hF := (hS.2.1 q (by omega)).1
      obtain ⟨tb, to', rfl, hat⟩ := (HT.out.keep0 HX5.out).addr (by omega)
      obtain ⟨fa, fc, hty⟩ := hat q (by omega)
      have K2 := parts_any (tyAt ts q) fa fc w5 hty.f (fun h9 => by have := hF.2.2.2.2.1 h9; omega)
      unfold tyVal at K2
      have hpl := parts_len hF
      obtain ⟨c0, c1, c2, c3, c4, _⟩ := hty
      have hqn : (q : Int) < tn := by have := HTN.out; omega
      have KPl : Hid (∀ i, i < (parts (tyAt ts q)).length → ∀ u, Ext [] w u → Calls Tryd.prog 21 #[.slice (some ⟨tb, to', none⟩) tn tc, .int .i64 q, .int .i64 i] u (LPost3 u (offs ts q i) (offs ts q (i + 1)) ((parts (tyAt ts q)).getD i 0))) := fun i hi u hu => place_any ts (some ⟨tb, to', none⟩) tn tc HTN.out hS q i u (HT.out.keep0 hu) (by have := HTN.out; omega) hi
      have KEq : Hid (∀ k : Nat, k < ts.length → ∀ (p p' : List Cl), eqR ts d k p p' = (true, 0) → ∀ u, Ext [] w u → ∀ at1 ct1, tn ≤ ct1 → ∀ a1 c1 a2 c2, Tab u at1 ts → Cs d u a1 p → Cs d u a2 p' → Calls Tryd.prog 12 #[.slice at1 tn ct1, .int .i64 k, .slice a1 p.length c1, .slice a2 p'.length c2] u (SayPost u (.tuple #[.bool true, .int .i64 0]))) := fun k hk p p' hpp u hu at1 ct1 hct a1 c1 a2 c2 h1 h2 h3 => by
        have K := equal_any ts at1 tn ct1 HTN.out hct d k a1 p c1 a2 p' c2 u h2 h3 h1 (HG.out.keep0 hu)
        rw [hpp] at K
        exact K
      have HL0 := hid (fun i hi => HL1.out rfl q rfl i hi)
      clear hat hF hS t0 t1 HS HZ HL1
      generalize hps : parts (tyAt ts q) = ps at *
      go_upto_region 13 with (first | (go_at_call 20; refine K2.mono ?_; clear K2; rintro e w6 ⟨ia, ic, rfl, hIo, hE6⟩; have HI6 := hid (own_vs hIo); have HX6 := hid (HX5.out.trans hE6); have HE6 := hid hE6; clear hIo hE6) | fail "no arm")
      have r0 := HE6.out.cell q0 (by simp)
      have r1 := HE6.out.cell q1 (by simp)
      have r2 := HE6.out.cell q2 (by simp)
      clear q0 q1 q2 c0 c1 c2 c3 c4 HE6
      have HB : Hid (∀ u, Ext [] w6 u → u.cell? ⟨qb, 0, none⟩ = some (.slice (some ⟨tb, to', none⟩) tn tc) ∧ u.cell? ⟨qb, 1, none⟩ = some (.int .i64 q) ∧ u.cell? ⟨qb, 2, none⟩ = some (.slice a l.length c)) := fun u hu => ⟨hu.cell r0 (by simp), hu.cell r1 (by simp), hu.cell r2 (by simp)⟩
      clear r0 r1 r2
      go_loopw [16] (fun v wr => ∃ i : Nat, v = .int .i64 i ∧ i ≤ ps.length ∧ Hid (Ext [] w6 wr)) (fun v _ => (ps.length - (intOf v)).toNat)
      case atStart => exact ⟨0, rfl, Nat.zero_le _, hid (Ext.refl _ _)⟩
      case round =>
        obtain ⟨i, rfl, hi, hR⟩ := hrel
        by_cases hlt : i < ps.length
        · obtain ⟨k, hk, hkt, hp1, hp2, hp3, o1, o2, heq⟩ := HP.out i hlt
          have KP1 := KPl.out i hlt wr (HX6.out.trans hR.out)
          rw [hk, o1, o2] at KP1
          obtain ⟨q0, q1, q2⟩ := HB.out wr hR.out
          have hil : (i : Int) < ps.length := by omega
          have hX_wr : Ext [] w wr := HX6.out.trans hR.out
          have hm0 := hmc
          obtain ⟨b1, o1', hao1⟩ : ∃ b o, a = some ⟨b, o, none⟩ := by
            have h0 : 0 < l.length := by have := HL0.out i hlt; omega
            obtain ⟨_, b, o, _, h, _⟩ := (HC.out).at_ h0
            exact ⟨b, o, h⟩
          subst hao1
          obtain ⟨b2, o2', hao2⟩ : ∃ b o, am = some ⟨b, o, none⟩ := by
            have h0 : 0 < m.length := by have := HL0.out i hlt; omega
            obtain ⟨_, b, o, _, h, _⟩ := (HM.out).at_ h0
            exact ⟨b, o, h⟩
          subst hao2
          have hcut1 : (partL ts q l i).length = pb ts q (i + 1) - pb ts q i := by unfold partL; simp; omega
          have hcut2 : (partL ts q m i).length = pb ts q (i + 1) - pb ts q i := by unfold partL; simp; omega
          have KC1 : Hid (∀ u, Ext [] w u → Calls Tryd.prog 14 #[.slice (some ⟨b1, o1' + pb ts q i * 4, none⟩) (pb ts q (i + 1) - pb ts q i) (c - pb ts q i)] u (fun e w' => ∃ av1 cv1, e = .returned (.slice av1 (pb ts q (i + 1) - pb ts q i) cv1) ∧ Cs d w' av1 (partL ts q l i) ∧ Ext [] u w')) := fun u hu => (rcopy_any d _ (partL ts q l i) _ _ u ((HC.out.keep0 hu).sub hp1 hp2) hcut1).mono (by rintro e w' ⟨a1, c1, h1, _, h2, h3⟩; exact ⟨a1, c1, h1, h2.cs, h3⟩)
          have KC2 : Hid (∀ u, Ext [] w u → Calls Tryd.prog 14 #[.slice (some ⟨b2, o2' + pb ts q i * 4, none⟩) (pb ts q (i + 1) - pb ts q i) (mc - pb ts q i)] u (fun e w' => ∃ am1 cm1, e = .returned (.slice am1 (pb ts q (i + 1) - pb ts q i) cm1) ∧ Cs d w' am1 (partL ts q m i) ∧ Ext [] u w')) := fun u hu => (rcopy_any d _ (partL ts q m i) _ _ u ((HM.out.keep0 hu).sub hp1 hp3) hcut2).mono (by rintro e w' ⟨a1, c1, h1, _, h2, h3⟩; exact ⟨a1, c1, h1, h2.cs, h3⟩)
          have KE5 : Hid (∀ u, Ext [] w u → ∀ at1 ct1, tn ≤ ct1 → ∀ a1 c1 a2 c2, Tab u at1 ts → Cs d u a1 (partL ts q l i) → Cs d u a2 (partL ts q m i) → Calls Tryd.prog 12 #[.slice at1 tn ct1, .int .i64 k, .slice a1 (pb ts q (i + 1) - pb ts q i) c1, .slice a2 (pb ts q (i + 1) - pb ts q i) c2] u (SayPost u (.tuple #[.bool true, .int .i64 0]))) := fun u hu at1 ct1 hct a1 c1 a2 c2 h1 h2 h3 => by
            have K := KEq.out k hkt _ _ heq u hu at1 ct1 hct a1 c1 a2 c2 h1 h2 h3
            rw [hcut1, hcut2] at K
            exact K
          generalize partL ts q l i = P1 at *
          generalize partL ts q m i = P2 at *
          have hpp := (HL0.out i hlt).2
          have z1 : pb ts q i < c := by omega
          have z5 : ((pb ts q i : Nat) : Int) ≤ (pb ts q (i + 1) : Nat) := by omega
          have z6 : ((pb ts q (i + 1) : Nat) : Int) ≤ c := by omega
          have z7 : ((pb ts q (i + 1) : Nat) : Int) ≤ mc := by omega
          have z8 : ((pb ts q i : Nat) : Int) < c := by omega
          have z9 : ((pb ts q i : Nat) : Int) < mc := by omega
          have z2 : pb ts q (i + 1) ≤ c := by omega
          have z3 : pb ts q i < mc := by omega
          have z4 : pb ts q (i + 1) ≤ mc := by omega
          clear hk o1 o2 heq hcut1 hcut2
          generalize pb ts q i = p at *
          generalize pb ts q (i + 1) = p' at *
          clear KPl KEq HL0 HC HM HP
          go_upto_region 16 with (first | (go_at_call 21; refine KP1.mono ?_; clear KP1; rintro e w7 ⟨rfl, hE7⟩) | fail "no arm")
          obtain ⟨q0, q1, q2⟩ := HB.out w7 (hR.out.trans hE7)
          have hX_w7 : Ext [] w w7 := hX_wr.trans hE7
          have HE7 := hid hE7
          clear hE7 hX_wr
          go_region_held3 (fun u => u.cell? ⟨qb, 0, none⟩ = some (.slice (some ⟨tb, to', none⟩) tn tc) ∧ u.cell? ⟨qb, 1, none⟩ = some (.int .i64 q) ∧ u.cell? ⟨qb, 2, none⟩ = some (.slice (some ⟨b1, o1', none⟩) l.length c))
            (first | exact ⟨Ext.cell (by (repeat (first | (with_reducible exact Ext.refl [] _) | (with_reducible exact Ext.drew [] _) | (with_reducible assumption) | (with_reducible refine Ext.trans ?_ (Ext.drew [] _)) | (with_reducible refine Ext.trans ?_ (by assumption)) | fail "no chain"))) q0 (by simp), Ext.cell (by (repeat (first | (with_reducible exact Ext.refl [] _) | (with_reducible exact Ext.drew [] _) | (with_reducible assumption) | (with_reducible refine Ext.trans ?_ (Ext.drew [] _)) | (with_reducible refine Ext.trans ?_ (by assumption)) | fail "no chain"))) q1 (by simp), Ext.cell (by (repeat (first | (with_reducible exact Ext.refl [] _) | (with_reducible exact Ext.drew [] _) | (with_reducible assumption) | (with_reducible refine Ext.trans ?_ (Ext.drew [] _)) | (with_reducible refine Ext.trans ?_ (by assumption)) | fail "no chain"))) q2 (by simp)⟩ | go_keep)
            (first
              | (go_at_call 13; (with_reducible refine Calls.mono (KT _ ?_) ?_); (repeat (first | (with_reducible exact Ext.refl [] _) | (with_reducible exact Ext.drew [] _) | (with_reducible assumption) | (with_reducible refine Ext.trans ?_ (Ext.drew [] _)) | (with_reducible refine Ext.trans ?_ (by assumption)) | fail "no chain")); rintro e wt ⟨at1, ct1, rfl, hct, hTC, hEt⟩)
              | (go_at_call 14; (with_reducible refine Calls.mono (KC1.out _ ?_) ?_); (repeat (first | (with_reducible exact Ext.refl [] _) | (with_reducible exact Ext.drew [] _) | (with_reducible assumption) | (with_reducible refine Ext.trans ?_ (Ext.drew [] _)) | (with_reducible refine Ext.trans ?_ (by assumption)) | fail "no chain")); rintro e wv ⟨av1, cv1, rfl, hCo, hEv⟩)
              | (go_at_call 14; (with_reducible refine Calls.mono (KC2.out _ ?_) ?_); (repeat (first | (with_reducible exact Ext.refl [] _) | (with_reducible exact Ext.drew [] _) | (with_reducible assumption) | (with_reducible refine Ext.trans ?_ (Ext.drew [] _)) | (with_reducible refine Ext.trans ?_ (by assumption)) | fail "no chain")); rintro e wm ⟨am1, cm1, rfl, hCm, hEm⟩)
              | (go_at_call 12; refine Calls.mono (KE5.out _ ?_ at1 ct1 hct av1 cv1 am1 cm1 (hTC.keep0 ?_) (hCo.keep0 ?_) (hCm.keep0 ?_)) ?_; (repeat (first | (with_reducible exact Ext.refl [] _) | (with_reducible exact Ext.drew [] _) | (with_reducible assumption) | (with_reducible refine Ext.trans ?_ (Ext.drew [] _)) | (with_reducible refine Ext.trans ?_ (by assumption)) | fail "no chain")); (repeat (first | (with_reducible exact Ext.refl [] _) | (with_reducible exact Ext.drew [] _) | (with_reducible assumption) | (with_reducible refine Ext.trans ?_ (Ext.drew [] _)) | (with_reducible refine Ext.trans ?_ (by assumption)) | fail "no chain")); (repeat (first | (with_reducible exact Ext.refl [] _) | (with_reducible exact Ext.drew [] _) | (with_reducible assumption) | (with_reducible refine Ext.trans ?_ (Ext.drew [] _)) | (with_reducible refine Ext.trans ?_ (by assumption)) | fail "no chain")); (repeat (first | (with_reducible exact Ext.refl [] _) | (with_reducible exact Ext.drew [] _) | (with_reducible assumption) | (with_reducible refine Ext.trans ?_ (Ext.drew [] _)) | (with_reducible refine Ext.trans ?_ (by assumption)) | fail "no chain")); rintro e w8 ⟨rfl, hEr⟩)
              | fail "no arm")
          have hX_w8 : Ext [] w7 w8 := by (repeat (first | (with_reducible exact Ext.refl [] _) | (with_reducible exact Ext.drew [] _) | (with_reducible assumption) | (with_reducible refine Ext.trans ?_ (Ext.drew [] _)) | (with_reducible refine Ext.trans ?_ (by assumption)) | fail "no chain"))
          go_wp2_with fail
          go_roundw
          case rel => exact ⟨i + 1, by go_num, by omega, hid (hR.out.trans (HE7.out.trans hX_w8))⟩
          case measure => simp [intOf]; omega
        · go_wp2_with fail
          go_ret
          exact ⟨rfl, HX6.out.trans hR.out⟩

end Go.Proofs.YtpjcbpgfbhlioaaDoor
