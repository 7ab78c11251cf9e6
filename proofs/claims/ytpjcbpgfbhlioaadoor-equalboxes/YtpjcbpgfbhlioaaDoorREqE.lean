/-
  The reference's Equal; no statement is proved here.
-/
import Derived.Test.YtpjcbpgfbhlioaaDoorREqD
import Derived.Test.YtpjcbpgfbhlioaaDoorRChk
namespace Go.Proofs.YtpjcbpgfbhlioaaDoor
open Go.RowKit

theorem rqAt_any (ts : List Ty) (ta : Option Addr) (tn tc : Nat) (htn : ts.length = tn) (hS : Sound ts) (w0 : World) (hT : Tab w0 ta ts) : ∀ d, RqAt ts ta tn tc d w0 := by
  intro d
  induction d with
  | zero =>
    intro t a l n c a' l' n' c' w hE ht hC hn hnc hok hC' hn' hnc' hok'
    have hkl := kinds_len hS.2.1 (t + 1) t (by omega) (by omega) (by omega)
    have hw1 := (sound_fit hS (i := t) (by omega)).1.w0
    obtain rfl : l = [] := hC
    have h0 : ([] : List Cl).length = (kinds ts t).length := hok
    simp only [List.length_nil] at h0
    omega
  | succ d ih =>
    intro t
    induction t using Nat.strongRecOn with
    | _ t iht =>
      intro a l n c a' l' n' c' w hE ht hC hn hnc hok hC' hn' hnc' hok'
      by_cases hps : parts (tyAt ts t) = []
      · have hk := kinds_eq hS.2.1 (t := (t : Int)) (by omega) (by omega)
        rw [if_pos hps] at hk
        have h1 : l.length = 1 := by rw [okv_len hok, hk]; rfl
        have h1' : l'.length = 1 := by rw [okv_len hok', hk]; rfl
        obtain ⟨d1, b0, o0, hd, rfl, hat⟩ := hC.at_ (by omega)
        obtain rfl : d1 = d := by omega
        obtain ⟨d2, b1, o1, hd2, rfl, hat'⟩ := hC'.at_ (by omega)
        obtain rfl : d2 = d1 := by omega
        obtain ⟨ba, bc, hx, hbx⟩ := hat 0 (by omega)
        obtain ⟨ba', bc', hy, hby⟩ := hat' 0 (by omega)
        rw [Nat.zero_mul, Nat.add_zero] at hx hy
        have K := rleaf_any ts ta tn tc htn hS d2 w (hT.keep0 hE) (fun t a l n c a' l' n' c' u hu => ih t a l n c a' l' n' c' u (hE.trans hu)) t ht hps b0 o0 l c b1 o1 l' c' ba ba' bc bc' hx hy ⟨hbx, (hok.2 0 (by omega)).2⟩ ⟨hby, (hok'.2 0 (by omega)).2⟩
        obtain rfl : n = 1 := by omega
        obtain rfl : n' = 1 := by omega
        have hv : eqV ts (d2 + 1) t l l' = eqL (eqC ts (eqV ts d2)) [(tyAt ts t).kind] l l' := by
          show eqL _ (kinds ts t) l l' = _
          rw [hk]
        rw [hv]
        exact K
      · exact rparts_any ts ta tn tc htn hS d t ht hps w (hT.keep0 hE) (fun p hp a l n c a' l' n' c' u hu => iht p hp a l n c a' l' n' c' u (hE.trans hu) (by omega)) a l n c a' l' n' c' hC hn hnc hok hC' hn' hnc' hok'

set_option maxRecDepth 100000 in
set_option maxHeartbeats 1000000 in
theorem rbadv_any (ts : List Ty) (ta : Option Addr) (tn tc : Nat) (htn : ts.length = tn) (d : Nat) (t : Int) (a : Option Addr) (l : List Cl) (c : Nat) (w : World) (hC : Cs d w a l) (hnc : l.length ≤ c) (hT : Tab w ta ts) :
    Calls Tryd.prog 29 #[.slice ta tn tc, .int .i64 t, .slice a l.length c] w (SayPost w (.int .i64 (vk1 ts d t l))) := by
  have K := rvcheck_any ts ta tn tc htn d t a l _ c w hC rfl hnc hT
  by_cases h0 : vchk ts d t l = 0
  · obtain ⟨hS, q0, q1⟩ := bad_zero (vchk_zero h0).1
    obtain ⟨q, rfl⟩ : ∃ q : Nat, t = q := ⟨t.toNat, by omega⟩
    have KC : Hid (∀ u, Ext [] w u → Calls Tryd.prog 36 #[.slice ta tn tc, .int .i64 q] u (SayPost u (.bool (cmpT ts q)))) := fun u hu => comparOf_any ts ta tn tc htn hS.2.1 (q + 1) q (by omega) (by omega) u (hT.keep0 hu)
    have hv : vk1 ts d q l = if cmpT ts q then 0 else 3 := by unfold vk1 vkL; rw [if_pos h0]; rfl
    rw [hv]
    rw [h0] at K
    clear hv h0 hS q0 q1 hC hT hnc
    generalize l.length = n at *
    cases hcm : cmpT ts q
    · rw [hcm] at KC
      rw [if_neg (by simp)]
      clear hcm
      go_enter Tryd.func29, Tryd.ntmps29
      go_wp2_with (first | (go_at_call 25; refine K.mono ?_; clear K; rintro e w1 ⟨rfl, hE1⟩; have KC1 := KC.out w1 hE1; replace hE1 := hid hE1) | (go_at_call 36; refine KC1.mono ?_; clear KC1; rintro e w2 ⟨rfl, hE2⟩; replace hE2 := hid hE2) | fail "no arm")
      go_ret
      exact ⟨rfl, hE1.out.trans hE2.out⟩
    · rw [hcm] at KC
      rw [if_pos rfl]
      clear hcm
      go_enter Tryd.func29, Tryd.ntmps29
      go_wp2_with (first | (go_at_call 25; refine K.mono ?_; clear K; rintro e w1 ⟨rfl, hE1⟩; have KC1 := KC.out w1 hE1; replace hE1 := hid hE1) | (go_at_call 36; refine KC1.mono ?_; clear KC1; rintro e w2 ⟨rfl, hE2⟩; replace hE2 := hid hE2) | fail "no arm")
      go_ret
      exact ⟨rfl, hE1.out.trans hE2.out⟩
  · have hv : vk1 ts d t l = vchk ts d t l := by unfold vk1 vkL; rw [if_neg h0]
    rw [hv]
    have hb : (vchk ts d t l == 0) = false := by simpa using h0
    clear hv h0 hC hT hnc
    generalize vchk ts d t l = er at *
    generalize l.length = n at *
    go_enter Tryd.func29, Tryd.ntmps29
    go_wp2_with (first | (go_at_call 25; refine K.mono ?_; clear K; rintro e w1 ⟨rfl, hE1⟩; replace hE1 := hid hE1) | fail "no arm")
    go_ret
    exact ⟨rfl, hE1.out⟩

set_option maxRecDepth 100000 in
set_option maxHeartbeats 1000000 in
theorem requal_any (ts : List Ty) (ta : Option Addr) (tn tc : Nat) (htn : ts.length = tn) (d : Nat) (t : Int) (a : Option Addr) (l : List Cl) (c : Nat) (a' : Option Addr) (l' : List Cl) (c' : Nat) (w : World) (hC : Cs d w a l) (hnc : l.length ≤ c) (hC' : Cs d w a' l') (hnc' : l'.length ≤ c') (hT : Tab w ta ts) :
    Calls Tryd.prog 15 #[.slice ta tn tc, .int .i64 t, .slice a l.length c, .slice a' l'.length c'] w (SayPost w (paV (eqR ts d t l l'))) := by
  have K1 := rvcheck_any ts ta tn tc htn d t a l _ c w hC rfl hnc hT
  have K2 : Hid (∀ u, Ext [] w u → Calls Tryd.prog 25 #[.slice ta tn tc, .int .i64 t, .slice a' l'.length c'] u (SayPost u (.int .i64 (vchk ts d t l')))) := fun u hu => rvcheck_any ts ta tn tc htn d t a' l' _ c' u (hC'.keep0 hu) rfl hnc' (hT.keep0 hu)
  have K3 : Hid (∀ u, Ext [] w u → Calls Tryd.prog 29 #[.slice ta tn tc, .int .i64 t, .slice a l.length c] u (SayPost u (.int .i64 (vk1 ts d t l)))) := fun u hu => rbadv_any ts ta tn tc htn d t a l c u (hC.keep0 hu) hnc (hT.keep0 hu)
  by_cases h1 : vchk ts d t l = 0
  · by_cases h2 : vchk ts d t l' = 0
    · have hvv : vk2 ts d t l l' = vk1 ts d t l := by unfold vk1 vk2 vkL; rw [if_pos h1, if_pos h1]; unfold vkL; rw [if_pos h2]; rfl
      by_cases h3 : vk1 ts d t l = 0
      · obtain ⟨hb, ho⟩ := vchk_zero h1
        obtain ⟨_, ho'⟩ := vchk_zero h2
        obtain ⟨hS, q0, q1⟩ := bad_zero hb
        obtain ⟨q, rfl⟩ : ∃ q : Nat, t = q := ⟨t.toNat, by omega⟩
        have K4 : Hid (∀ u, Ext [] w u → Calls Tryd.prog 30 #[.slice ta tn tc, .int .i64 q, .slice a l.length c, .slice a' l'.length c'] u (SayPost u (paV (eqV ts d q l l')))) := fun u hu => rqAt_any ts ta tn tc htn hS w hT d q a l _ c a' l' _ c' u hu (by omega) (hC.keep0 hu) rfl hnc ho.2 (hC'.keep0 hu) rfl hnc' ho'.2
        have he : eqR ts d q l l' = eqV ts d q l l' := by unfold eqR; rw [if_pos (hvv.trans h3)]
        rw [he]
        rw [h1] at K1
        rw [h2] at K2
        rw [h3] at K3
        clear he hvv h1 h2 h3 hb ho ho' hS q0 q1 hC hC' hT hnc hnc'
        generalize l.length = n at *
        generalize l'.length = n' at *
        generalize eqV ts d q l l' = r at *
        unfold paV at K4 ⊢
        go_enter Tryd.func15, Tryd.ntmps15
        go_wp2_with (first | (go_at_call 25; refine K1.mono ?_; clear K1; rintro e w1 ⟨rfl, hE1⟩; have K2a := K2.out w1 hE1; replace hE1 := hid hE1) | (go_at_call 25; refine K2a.mono ?_; clear K2a; rintro e w2 ⟨rfl, hE2⟩; have K3a := K3.out w2 (hE1.out.trans hE2); replace hE2 := hid (hE1.out.trans hE2)) | (go_at_call 29; refine K3a.mono ?_; clear K3a; rintro e w3 ⟨rfl, hE3⟩; have K4a := K4.out w3 (hE2.out.trans hE3); replace hE3 := hid (hE2.out.trans hE3)) | (go_at_call 30; refine K4a.mono ?_; clear K4a; rintro e w4 ⟨rfl, hE4⟩; replace hE4 := hid (hE3.out.trans hE4)) | fail "no arm")
        go_ret2
        exact ⟨rfl, hE4.out⟩
      · have he : eqR ts d t l l' = (false, vk1 ts d t l) := by unfold eqR; rw [if_neg (by rw [hvv]; exact h3), hvv]
        rw [he]
        rw [h1] at K1
        rw [h2] at K2
        have hb : (vk1 ts d t l == 0) = false := by simpa using h3
        clear he hvv h1 h2 h3 hC hC' hT hnc hnc'
        generalize l.length = n at *
        generalize l'.length = n' at *
        generalize vk1 ts d t l = er at *
        unfold paV
        simp only
        go_enter Tryd.func15, Tryd.ntmps15
        go_wp2_with (first | (go_at_call 25; refine K1.mono ?_; clear K1; rintro e w1 ⟨rfl, hE1⟩; have K2a := K2.out w1 hE1; replace hE1 := hid hE1) | (go_at_call 25; refine K2a.mono ?_; clear K2a; rintro e w2 ⟨rfl, hE2⟩; have K3a := K3.out w2 (hE1.out.trans hE2); replace hE2 := hid (hE1.out.trans hE2)) | (go_at_call 29; refine K3a.mono ?_; clear K3a; rintro e w3 ⟨rfl, hE3⟩; replace hE3 := hid (hE2.out.trans hE3)) | fail "no arm")
        go_ret2
        exact ⟨rfl, hE3.out⟩
    · have he : eqR ts d t l l' = (false, vchk ts d t l') := by
        have hvv : vk2 ts d t l l' = vchk ts d t l' := by unfold vk2 vkL; rw [if_pos h1]; unfold vkL; rw [if_neg h2]
        unfold eqR
        rw [if_neg (by rw [hvv]; exact h2), hvv]
      rw [he]
      rw [h1] at K1
      have hb : (vchk ts d t l' == 0) = false := by simpa using h2
      clear he h1 h2 hC hC' hT hnc hnc' K3
      generalize l.length = n at *
      generalize vchk ts d t l' = er at *
      generalize l'.length = n' at *
      unfold paV
      simp only
      go_enter Tryd.func15, Tryd.ntmps15
      go_wp2_with (first | (go_at_call 25; refine K1.mono ?_; clear K1; rintro e w1 ⟨rfl, hE1⟩; have K2a := K2.out w1 hE1; replace hE1 := hid hE1) | (go_at_call 25; refine K2a.mono ?_; clear K2a; rintro e w2 ⟨rfl, hE2⟩; replace hE2 := hid (hE1.out.trans hE2)) | fail "no arm")
      go_ret2
      exact ⟨rfl, hE2.out⟩
  · have he : eqR ts d t l l' = (false, vchk ts d t l) := by
      have hvv : vk2 ts d t l l' = vchk ts d t l := by unfold vk2 vkL; rw [if_neg h1]
      unfold eqR
      rw [if_neg (by rw [hvv]; exact h1), hvv]
    rw [he]
    have hb : (vchk ts d t l == 0) = false := by simpa using h1
    clear he h1 hC hC' hT hnc hnc' K2 K3
    generalize vchk ts d t l = er at *
    generalize l.length = n at *
    generalize l'.length = n' at *
    unfold paV
    simp only
    go_enter Tryd.func15, Tryd.ntmps15
    go_wp2_with (first | (go_at_call 25; refine K1.mono ?_; clear K1; rintro e w1 ⟨rfl, hE1⟩; replace hE1 := hid hE1) | fail "no arm")
    go_ret2
    exact ⟨rfl, hE1.out⟩

end Go.Proofs.YtpjcbpgfbhlioaaDoor
