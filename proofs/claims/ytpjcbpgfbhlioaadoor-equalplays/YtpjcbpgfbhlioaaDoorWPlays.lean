/-
  EqualPlays, walked through; its frame is in LawPlays.
-/
import Derived.Test.YtpjcbpgfbhlioaaDoorRHsC
namespace Go.Proofs.YtpjcbpgfbhlioaaDoor
open Go.RowKit

theorem self_pair (ts : List Ty) (d : Nat) (t : Int) (l : List Cl) : (if (hsR ts d t l 0 0).2 = 0 then ((eqV ts d t l l).1, (0 : Int)) else (false, (hsR ts d t l 0 0).2)) = sfR ts d t l := by
  unfold sfR
  by_cases h0 : (hsR ts d t l 0 0).2 = 0
  · rw [if_pos h0, if_pos h0]
    have hz := hsR_zero h0
    unfold hsR at h0
    rw [if_pos hz] at h0
    have h1 : (eqV ts d t l l).2 = 0 := by
      by_cases h : (eqV ts d t l l).2 = 0
      · exact h
      · rw [eqV_err ts 0 d t l l 0 h] at h0
        simp at h0
    exact Prod.ext rfl h1.symm
  · rw [if_neg h0, if_neg h0]

theorem U_of_wf {n : Int} (h : (Lit.int .u64 n).wf = true) : U n := by
  have h1 : IntKind.u64.min ≤ n ∧ n ≤ IntKind.u64.max := by simpa [Lit.wf] using h
  have e1 : IntKind.u64.min = 0 := by decide
  have e2 : IntKind.u64.max = 18446744073709551615 := by decide
  unfold U
  omega

set_option maxRecDepth 100000 in
set_option maxHeartbeats 8000000 in
theorem plays_walk (ts : List Ty) (ta : Option Addr) (tn tc : Nat) (htn : ts.length = tn) (d : Nat) (t : Int) (a : Option Addr) (l : List Cl) (c : Nat) (am : Option Addr) (m : List Cl) (mc : Nat) (seed salt : Int) (hU : U seed) (w : World) (hC : Cs d w a l) (hlc : l.length ≤ c) (hM : Cs d w am m) (hmc : m.length ≤ mc) (hT : Tab w ta ts) (hG : Gl w) :
    Calls Tryd.prog 3 #[.agg #[.slice ta tn tc, .int .i64 t, .slice a l.length c], .slice am m.length mc, .int .u64 seed, .int .u64 salt] w (SayPost w (.bool true)) := by
  have hE0 := Ext.alloc [] w (.cells #[.slice ta tn tc, .int .i64 t, .slice a l.length c] 25)
  have hb0 := heap_alloc_new w (.cells #[.slice ta tn tc, .int .i64 t, .slice a l.length c] 25)
  have KA := awake_any (w.alloc (.cells #[.slice ta tn tc, .int .i64 t, .slice a l.length c] 25))
  have HQ : Hid (∀ u, Ext [] (w.alloc (.cells #[.slice ta tn tc, .int .i64 t, .slice a l.length c] 25)) u → u.cell? ⟨w.heap.size, 0, none⟩ = some (.slice ta tn tc) ∧ u.cell? ⟨w.heap.size, 1, none⟩ = some (.int .i64 t) ∧ u.cell? ⟨w.heap.size, 2, none⟩ = some (.slice a l.length c)) := fun u hu =>
    ⟨hu.cell (by rw [cell_of_row _ _ _ _ _ _ hb0]; rfl) (by simp), hu.cell (by rw [cell_of_row _ _ _ _ _ _ hb0]; rfl) (by simp), hu.cell (by rw [cell_of_row _ _ _ _ _ _ hb0]; rfl) (by simp)⟩
  have HE0 := hid hE0
  have KT : ∀ u, Ext [] w u → Calls Tryd.prog 13 #[.slice ta tn tc] u (fun e w' => ∃ at1 ct1, e = .returned (.slice at1 tn ct1) ∧ tn ≤ ct1 ∧ Tab w' at1 ts ∧ Ext [] u w') := fun u hu => (copy_any ta ts tn tc u (hT.keep0 hu) htn).mono (by rintro e w' ⟨a1, c1, G, h1, h2, _, h4, h5⟩; exact ⟨a1, c1, h1, h2, h4, h5⟩)
  have KV : ∀ u, Ext [] w u → Calls Tryd.prog 14 #[.slice a l.length c] u (fun e w' => ∃ av1 cv1, e = .returned (.slice av1 l.length cv1) ∧ Cs d w' av1 l ∧ Ext [] u w') := fun u hu => (rcopy_any d a l _ c u (hC.keep0 hu) rfl).mono (by rintro e w' ⟨a1, c1, h1, _, h2, h3⟩; exact ⟨a1, c1, h1, h2.cs, h3⟩)
  have KM : ∀ u, Ext [] w u → Calls Tryd.prog 14 #[.slice am m.length mc] u (fun e w' => ∃ am1 cm1, e = .returned (.slice am1 m.length cm1) ∧ Cs d w' am1 m ∧ Ext [] u w') := fun u hu => (rcopy_any d am m _ mc u (hM.keep0 hu) rfl).mono (by rintro e w' ⟨a1, c1, h1, _, h2, h3⟩; exact ⟨a1, c1, h1, h2.cs, h3⟩)
  have KE : ∀ u, Ext [] w u → ∀ at1 ct1, tn ≤ ct1 → ∀ av1 cv1 am1 cm1, Tab u at1 ts → Cs d u av1 l → Cs d u am1 m → Calls Tryd.prog 12 #[.slice at1 tn ct1, .int .i64 t, .slice av1 l.length cv1, .slice am1 m.length cm1] u (SayPost u (paV (eqR ts d t l m))) := fun u hu at1 ct1 hct av1 cv1 am1 cm1 h1 h2 h3 => equal_any ts at1 tn ct1 htn hct d t av1 l cv1 am1 m cm1 u h2 h3 h1 (hG.keep0 hu)
  have KH : ∀ u, Ext [] w u → ∀ at1 ct1, tn ≤ ct1 → ∀ av1 cv1, Tab u at1 ts → Cs d u av1 l → Calls Tryd.prog 16 #[.slice at1 tn ct1, .int .i64 t, .slice av1 l.length cv1, .int .u64 seed, .int .u64 salt] u (SayPost u (huV (hsR ts d t l seed salt))) := fun u hu at1 ct1 hct av1 cv1 h1 h2 => hash_any ts at1 tn ct1 htn hct d t av1 l cv1 seed salt u h2 h1 (hG.keep0 hu)
  have KS : ∀ u, Ext [] w u → ∀ at1 ct1, tn ≤ ct1 → ∀ av1 cv1, Tab u at1 ts → Cs d u av1 l → Calls Tryd.prog 18 #[.slice at1 tn ct1, .int .i64 t, .slice av1 l.length cv1] u (SayPost u (paV (sfR ts d t l))) := fun u hu at1 ct1 hct av1 cv1 h1 h2 => self_any ts at1 tn ct1 htn hct d t av1 l cv1 u h2 h1 (hG.keep0 hu)
  have RE : ∀ u, Ext [] w u → Calls Tryd.prog 15 #[.slice ta tn tc, .int .i64 t, .slice a l.length c, .slice am m.length mc] u (SayPost u (paV (eqR ts d t l m))) := fun u hu => requal_any ts ta tn tc htn d t a l c am m mc u (hC.keep0 hu) hlc (hM.keep0 hu) hmc (hT.keep0 hu)
  have RH : ∀ u, Ext [] w u → Calls Tryd.prog 17 #[.slice ta tn tc, .int .i64 t, .slice a l.length c, .int .u64 seed, .int .u64 salt] u (SayPost u (huV (hsR ts d t l seed salt))) := fun u hu => rhash_any ts ta tn tc htn d t a l c seed salt hU u (hC.keep0 hu) hlc (hT.keep0 hu)
  have RS : ∀ u, Ext [] w u → Calls Tryd.prog 19 #[.slice ta tn tc, .int .i64 t, .slice a l.length c] u (SayPost u (paV (sfR ts d t l))) := fun u hu => (rself_any ts ta tn tc htn d t a l c u (hC.keep0 hu) hlc (hT.keep0 hu)).mono (by rintro e w' ⟨r, rfl, hr, h⟩; exact ⟨by rw [hr.out, self_pair], h⟩)
  have K10 := fun u => mix_any seed u
  have K11 := fun u => rmix_any seed u
  unfold huV at KH RH
  unfold paV at KE KS RE RS
  clear hT hG hC hM hE0 hb0 hU hlc hmc
  generalize mixI seed = ms at *
  generalize (sfR ts d t l).1 = sf at *
  generalize (sfR ts d t l).2 = se at *
  generalize (hsR ts d t l seed salt).1 = ha at *
  generalize (hsR ts d t l seed salt).2 = fe at *
  generalize (eqR ts d t l m).1 = ok at *
  generalize (eqR ts d t l m).2 = ee at *
  have bms : (ms == ms) = true := by simp
  go_enter Tryd.func3, Tryd.ntmps3
  go_upto_region 3 with (first | (go_at_call 9; refine KA.mono ?_; clear KA; rintro e w1 ⟨rfl, hE1⟩) | (go_at_call 10; refine met (K10 _) ?_) | (go_at_call 11; refine met (K11 _) ?_) | fail "no arm")
  have hX_w1 : Ext [] w w1 := HE0.out.trans hE1
  obtain ⟨q0, q1, q2⟩ := HQ.out w1 hE1
  clear hE1 HQ HE0 K10 K11 bms
  generalize w.heap.size = qb at *
  go_region_held3 (fun u => u.cell? ⟨qb, 0, none⟩ = some (.slice ta tn tc) ∧ u.cell? ⟨qb, 1, none⟩ = some (.int .i64 t) ∧ u.cell? ⟨qb, 2, none⟩ = some (.slice a l.length c))
    (first | exact ⟨Ext.cell (by (repeat (first | (with_reducible exact Ext.refl [] _) | (with_reducible exact Ext.drew [] _) | (with_reducible assumption) | (with_reducible refine Ext.trans ?_ (Ext.drew [] _)) | (with_reducible refine Ext.trans ?_ (by assumption)) | fail "no chain"))) q0 (by simp), Ext.cell (by (repeat (first | (with_reducible exact Ext.refl [] _) | (with_reducible exact Ext.drew [] _) | (with_reducible assumption) | (with_reducible refine Ext.trans ?_ (Ext.drew [] _)) | (with_reducible refine Ext.trans ?_ (by assumption)) | fail "no chain"))) q1 (by simp), Ext.cell (by (repeat (first | (with_reducible exact Ext.refl [] _) | (with_reducible exact Ext.drew [] _) | (with_reducible assumption) | (with_reducible refine Ext.trans ?_ (Ext.drew [] _)) | (with_reducible refine Ext.trans ?_ (by assumption)) | fail "no chain"))) q2 (by simp)⟩ | go_keep)
    (first
      | (go_at_call 13; (with_reducible refine Calls.mono (KT _ ?_) ?_); (repeat (first | (with_reducible exact Ext.refl [] _) | (with_reducible exact Ext.drew [] _) | (with_reducible assumption) | (with_reducible refine Ext.trans ?_ (Ext.drew [] _)) | (with_reducible refine Ext.trans ?_ (by assumption)) | fail "no chain")); rintro e wt ⟨at1, ct1, rfl, hct, hTC, hEt⟩)
      | (go_at_call 14; (with_reducible refine Calls.mono (KV _ ?_) ?_); (repeat (first | (with_reducible exact Ext.refl [] _) | (with_reducible exact Ext.drew [] _) | (with_reducible assumption) | (with_reducible refine Ext.trans ?_ (Ext.drew [] _)) | (with_reducible refine Ext.trans ?_ (by assumption)) | fail "no chain")); rintro e wv ⟨av1, cv1, rfl, hCo, hEv⟩)
      | (go_at_call 14; (with_reducible refine Calls.mono (KM _ ?_) ?_); (repeat (first | (with_reducible exact Ext.refl [] _) | (with_reducible exact Ext.drew [] _) | (with_reducible assumption) | (with_reducible refine Ext.trans ?_ (Ext.drew [] _)) | (with_reducible refine Ext.trans ?_ (by assumption)) | fail "no chain")); rintro e wm ⟨am1, cm1, rfl, hCm, hEm⟩)
      | (go_at_call 12; refine Calls.mono (KE _ ?_ at1 ct1 hct av1 cv1 am1 cm1 (hTC.keep0 ?_) (hCo.keep0 ?_) (hCm.keep0 ?_)) ?_; (repeat (first | (with_reducible exact Ext.refl [] _) | (with_reducible exact Ext.drew [] _) | (with_reducible assumption) | (with_reducible refine Ext.trans ?_ (Ext.drew [] _)) | (with_reducible refine Ext.trans ?_ (by assumption)) | fail "no chain")); (repeat (first | (with_reducible exact Ext.refl [] _) | (with_reducible exact Ext.drew [] _) | (with_reducible assumption) | (with_reducible refine Ext.trans ?_ (Ext.drew [] _)) | (with_reducible refine Ext.trans ?_ (by assumption)) | fail "no chain")); (repeat (first | (with_reducible exact Ext.refl [] _) | (with_reducible exact Ext.drew [] _) | (with_reducible assumption) | (with_reducible refine Ext.trans ?_ (Ext.drew [] _)) | (with_reducible refine Ext.trans ?_ (by assumption)) | fail "no chain")); (repeat (first | (with_reducible exact Ext.refl [] _) | (with_reducible exact Ext.drew [] _) | (with_reducible assumption) | (with_reducible refine Ext.trans ?_ (Ext.drew [] _)) | (with_reducible refine Ext.trans ?_ (by assumption)) | fail "no chain")); rintro e w2 ⟨rfl, hEr⟩)
      | fail "no arm")
  rename_i hHeld
  clear q0 q1 q2
  obtain ⟨q0, q1, q2⟩ := hHeld
  have hX_w2 : Ext [] w w2 := by (repeat (first | (with_reducible exact Ext.refl [] _) | (with_reducible exact Ext.drew [] _) | (with_reducible assumption) | (with_reducible refine Ext.trans ?_ (Ext.drew [] _)) | (with_reducible refine Ext.trans ?_ (by assumption)) | fail "no chain"))
  clear hEt hEv hEm hEr hTC hCo hCm hct hX_w1 KE KM
  have REa := RE w2 hX_w2
  clear RE
  go_upto_region 5 with (first | (go_at_call 15; refine REa.mono ?_; clear REa; rintro e w3 ⟨rfl, hEr⟩) | fail "no arm")
  replace q0 := hEr.cell q0 (by simp)
  replace q1 := hEr.cell q1 (by simp)
  replace q2 := hEr.cell q2 (by simp)
  have hX_w3 : Ext [] w w3 := hX_w2.trans hEr
  clear hEr hX_w2
  go_region_held3 (fun u => u.cell? ⟨qb, 0, none⟩ = some (.slice ta tn tc) ∧ u.cell? ⟨qb, 1, none⟩ = some (.int .i64 t) ∧ u.cell? ⟨qb, 2, none⟩ = some (.slice a l.length c))
    (first | exact ⟨Ext.cell (by (repeat (first | (with_reducible exact Ext.refl [] _) | (with_reducible exact Ext.drew [] _) | (with_reducible assumption) | (with_reducible refine Ext.trans ?_ (Ext.drew [] _)) | (with_reducible refine Ext.trans ?_ (by assumption)) | fail "no chain"))) q0 (by simp), Ext.cell (by (repeat (first | (with_reducible exact Ext.refl [] _) | (with_reducible exact Ext.drew [] _) | (with_reducible assumption) | (with_reducible refine Ext.trans ?_ (Ext.drew [] _)) | (with_reducible refine Ext.trans ?_ (by assumption)) | fail "no chain"))) q1 (by simp), Ext.cell (by (repeat (first | (with_reducible exact Ext.refl [] _) | (with_reducible exact Ext.drew [] _) | (with_reducible assumption) | (with_reducible refine Ext.trans ?_ (Ext.drew [] _)) | (with_reducible refine Ext.trans ?_ (by assumption)) | fail "no chain"))) q2 (by simp)⟩ | go_keep)
    (first
      | (go_at_call 13; (with_reducible refine Calls.mono (KT _ ?_) ?_); (repeat (first | (with_reducible exact Ext.refl [] _) | (with_reducible exact Ext.drew [] _) | (with_reducible assumption) | (with_reducible refine Ext.trans ?_ (Ext.drew [] _)) | (with_reducible refine Ext.trans ?_ (by assumption)) | fail "no chain")); rintro e wt ⟨at1, ct1, rfl, hct, hTC, hEt⟩)
      | (go_at_call 14; (with_reducible refine Calls.mono (KV _ ?_) ?_); (repeat (first | (with_reducible exact Ext.refl [] _) | (with_reducible exact Ext.drew [] _) | (with_reducible assumption) | (with_reducible refine Ext.trans ?_ (Ext.drew [] _)) | (with_reducible refine Ext.trans ?_ (by assumption)) | fail "no chain")); rintro e wv ⟨av1, cv1, rfl, hCo, hEv⟩)
      | (go_at_call 16; refine Calls.mono (KH _ ?_ at1 ct1 hct av1 cv1 (hTC.keep0 ?_) (hCo.keep0 ?_)) ?_; (repeat (first | (with_reducible exact Ext.refl [] _) | (with_reducible exact Ext.drew [] _) | (with_reducible assumption) | (with_reducible refine Ext.trans ?_ (Ext.drew [] _)) | (with_reducible refine Ext.trans ?_ (by assumption)) | fail "no chain")); (repeat (first | (with_reducible exact Ext.refl [] _) | (with_reducible exact Ext.drew [] _) | (with_reducible assumption) | (with_reducible refine Ext.trans ?_ (Ext.drew [] _)) | (with_reducible refine Ext.trans ?_ (by assumption)) | fail "no chain")); (repeat (first | (with_reducible exact Ext.refl [] _) | (with_reducible exact Ext.drew [] _) | (with_reducible assumption) | (with_reducible refine Ext.trans ?_ (Ext.drew [] _)) | (with_reducible refine Ext.trans ?_ (by assumption)) | fail "no chain")); rintro e w4 ⟨rfl, hEr⟩)
      | fail "no arm")
  rename_i hHeld
  clear q0 q1 q2
  obtain ⟨q0, q1, q2⟩ := hHeld
  have hX_w4 : Ext [] w w4 := by (repeat (first | (with_reducible exact Ext.refl [] _) | (with_reducible exact Ext.drew [] _) | (with_reducible assumption) | (with_reducible refine Ext.trans ?_ (Ext.drew [] _)) | (with_reducible refine Ext.trans ?_ (by assumption)) | fail "no chain"))
  clear hEt hEv hEr hTC hCo hct hX_w3 KH
  have RHa := RH w4 hX_w4
  clear RH
  go_upto_region 7 with (first | (go_at_call 17; refine RHa.mono ?_; clear RHa; rintro e w5 ⟨rfl, hEr⟩) | fail "no arm")
  replace q0 := hEr.cell q0 (by simp)
  replace q1 := hEr.cell q1 (by simp)
  replace q2 := hEr.cell q2 (by simp)
  have hX_w5 : Ext [] w w5 := hX_w4.trans hEr
  clear hEr hX_w4
  go_region_held3 (fun u => u.cell? ⟨qb, 0, none⟩ = some (.slice ta tn tc) ∧ u.cell? ⟨qb, 1, none⟩ = some (.int .i64 t) ∧ u.cell? ⟨qb, 2, none⟩ = some (.slice a l.length c))
    (first | exact ⟨Ext.cell (by (repeat (first | (with_reducible exact Ext.refl [] _) | (with_reducible exact Ext.drew [] _) | (with_reducible assumption) | (with_reducible refine Ext.trans ?_ (Ext.drew [] _)) | (with_reducible refine Ext.trans ?_ (by assumption)) | fail "no chain"))) q0 (by simp), Ext.cell (by (repeat (first | (with_reducible exact Ext.refl [] _) | (with_reducible exact Ext.drew [] _) | (with_reducible assumption) | (with_reducible refine Ext.trans ?_ (Ext.drew [] _)) | (with_reducible refine Ext.trans ?_ (by assumption)) | fail "no chain"))) q1 (by simp), Ext.cell (by (repeat (first | (with_reducible exact Ext.refl [] _) | (with_reducible exact Ext.drew [] _) | (with_reducible assumption) | (with_reducible refine Ext.trans ?_ (Ext.drew [] _)) | (with_reducible refine Ext.trans ?_ (by assumption)) | fail "no chain"))) q2 (by simp)⟩ | go_keep)
    (first
      | (go_at_call 13; (with_reducible refine Calls.mono (KT _ ?_) ?_); (repeat (first | (with_reducible exact Ext.refl [] _) | (with_reducible exact Ext.drew [] _) | (with_reducible assumption) | (with_reducible refine Ext.trans ?_ (Ext.drew [] _)) | (with_reducible refine Ext.trans ?_ (by assumption)) | fail "no chain")); rintro e wt ⟨at1, ct1, rfl, hct, hTC, hEt⟩)
      | (go_at_call 14; (with_reducible refine Calls.mono (KV _ ?_) ?_); (repeat (first | (with_reducible exact Ext.refl [] _) | (with_reducible exact Ext.drew [] _) | (with_reducible assumption) | (with_reducible refine Ext.trans ?_ (Ext.drew [] _)) | (with_reducible refine Ext.trans ?_ (by assumption)) | fail "no chain")); rintro e wv ⟨av1, cv1, rfl, hCo, hEv⟩)
      | (go_at_call 18; refine Calls.mono (KS _ ?_ at1 ct1 hct av1 cv1 (hTC.keep0 ?_) (hCo.keep0 ?_)) ?_; (repeat (first | (with_reducible exact Ext.refl [] _) | (with_reducible exact Ext.drew [] _) | (with_reducible assumption) | (with_reducible refine Ext.trans ?_ (Ext.drew [] _)) | (with_reducible refine Ext.trans ?_ (by assumption)) | fail "no chain")); (repeat (first | (with_reducible exact Ext.refl [] _) | (with_reducible exact Ext.drew [] _) | (with_reducible assumption) | (with_reducible refine Ext.trans ?_ (Ext.drew [] _)) | (with_reducible refine Ext.trans ?_ (by assumption)) | fail "no chain")); (repeat (first | (with_reducible exact Ext.refl [] _) | (with_reducible exact Ext.drew [] _) | (with_reducible assumption) | (with_reducible refine Ext.trans ?_ (Ext.drew [] _)) | (with_reducible refine Ext.trans ?_ (by assumption)) | fail "no chain")); rintro e w6 ⟨rfl, hEr⟩)
      | fail "no arm")
  rename_i hHeld
  clear q0 q1 q2
  obtain ⟨q0, q1, q2⟩ := hHeld
  have hX_w6 : Ext [] w w6 := by (repeat (first | (with_reducible exact Ext.refl [] _) | (with_reducible exact Ext.drew [] _) | (with_reducible assumption) | (with_reducible refine Ext.trans ?_ (Ext.drew [] _)) | (with_reducible refine Ext.trans ?_ (by assumption)) | fail "no chain"))
  clear hEt hEv hEr hTC hCo hct hX_w5 KS KT KV
  have RSa := RS w6 hX_w6
  have HX := hid hX_w6
  clear hX_w6 RS
  have b1 : (ok == ok) = true := by simp
  have b2 : (ee == ee) = true := by simp
  have b3 : (ha == ha) = true := by simp
  have b4 : (fe == fe) = true := by simp
  have b5 : (sf == sf) = true := by simp
  have b6 : (se == se) = true := by simp
  go_wp2_with (first | (go_at_call 19; refine RSa.mono ?_; clear RSa; rintro e w7 ⟨rfl, hE7⟩; replace hE7 := hid hE7) | fail "no arm")
  go_ret
  exact ⟨rfl, HX.out.trans hE7.out⟩

end Go.Proofs.YtpjcbpgfbhlioaaDoor
