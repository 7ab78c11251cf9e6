/-
  The reference's compare of any values; Equal; no statement is proved here.
-/
import Derived.Test.YtpjcbpgfbhlioaaDoorREqC
namespace Go.Proofs.YtpjcbpgfbhlioaaDoor
open Go.RowKit

set_option maxRecDepth 100000 in
set_option maxHeartbeats 16000000 in
theorem rparts_any (ts : List Ty) (ta : Option Addr) (tn tc : Nat) (htn : ts.length = tn) (hS : Sound ts) (d : Nat) (t : Nat) (ht : t < tn) (hps : parts (tyAt ts t) ≠ []) (w : World) (hT : Tab w ta ts)
    (HR : ∀ p : Nat, p < t → ∀ (a : Option Addr) (l : List Cl) (n c : Nat) (a' : Option Addr) (l' : List Cl) (n' c' : Nat) (u : World), Ext [] w u → Cs (d + 1) u a l → l.length = n → n ≤ c → Okv ts (d + 1) (kinds ts p) l → Cs (d + 1) u a' l' → l'.length = n' → n' ≤ c' → Okv ts (d + 1) (kinds ts p) l' →
      Calls Tryd.prog 30 #[.slice ta tn tc, .int .i64 p, .slice a n c, .slice a' n' c'] u (SayPost u (paV (eqV ts (d + 1) p l l'))))
    (a : Option Addr) (l : List Cl) (n c : Nat) (a' : Option Addr) (l' : List Cl) (n' c' : Nat) (hC : Cs (d + 1) w a l) (hn : l.length = n) (hnc : n ≤ c) (hok : Okv ts (d + 1) (kinds ts t) l) (hC' : Cs (d + 1) w a' l') (hn' : l'.length = n') (hnc' : n' ≤ c') (hok' : Okv ts (d + 1) (kinds ts t) l') :
    Calls Tryd.prog 30 #[.slice ta tn tc, .int .i64 t, .slice a n c, .slice a' n' c'] w (SayPost w (paV (eqV ts (d + 1) t l l'))) := by
  have hF := (hS.2.1 t (by omega)).1
  obtain ⟨b, o, rfl, hat⟩ := hT.addr (by omega)
  obtain ⟨fa, fc, hty⟩ := hat t (by omega)
  have K2 := parts_any (tyAt ts t) fa fc w hty.f (fun h9 => by have := hF.2.2.2.2.1 h9; omega)
  unfold tyVal at K2
  obtain ⟨c0, c1, c2, c3, c4, _⟩ := hty
  have hke := kinds_eq hS.2.1 (t := (t : Int)) (by omega) (by omega)
  rw [if_neg hps] at hke
  have HKE := hid hke
  have HC := hid hC
  have HC' := hid hC'
  have HOk := hid hok
  have HOk' := hid hok'
  have HBL := hid hF.below
  have HR1 := hid HR
  have HKL : Hid (∀ p : Nat, p < tn → ((kinds ts p).length : Int) = (M ts p).width) := fun p hp => kinds_len hS.2.1 (p + 1) p (by omega) (by omega) (by omega)
  have HK1 : Hid (∀ p : Nat, p < tn → 1 ≤ (kinds ts p).length) := fun p hp => by have h1 := HKL.out p hp; have h2 := (sound_fit hS (i := p) (by omega)).1.w0; omega
  have KWD := fun (p : Nat) (hp : p < tn) u (hu : Ext [] w u) => widthOf_any ts (some ⟨b, o, none⟩) tn tc htn (p + 1) p (by omega) hp (fun j hj => hS.2.1 j (by omega)) (hS.2.1 p (by omega)).1 u (hT.keep0 hu)
  have hpp : 0 < (parts (tyAt ts t)).length := List.length_pos_iff.2 hps
  have hp1 : (0 : Int) < (parts (tyAt ts t)).length := by omega
  have hpl := parts_len hF
  have hnk : n = (kinds ts t).length := by rw [← hn]; exact okv_len hok
  have hnk' : n' = n := by rw [hnk, ← hn']; exact okv_len hok'
  have HNK := hid hnk
  have HN := hid hn
  have HN' : Hid (l'.length = n) := hn'.trans hnk'
  subst hnk'
  have HEV : Hid (eqV ts (d + 1) t l l' = eqL (eqC ts (eqV ts d)) (kinds ts t) l l') := rfl
  have hcl := hC.len
  rw [hn] at hcl
  clear hke hC hC' hT hat hF hS hnk hok hok' HR hn hn'
  generalize eqV ts (d + 1) t l l' = res at *
  generalize parts (tyAt ts t) = ps at *
  unfold paV
  go_enter Tryd.func30, Tryd.ntmps30
  go_upto_region 3 with (first | (go_at_call 20; refine K2.mono ?_; clear K2; rintro e w2 ⟨ia, ic, rfl, hIo, hE2⟩; have HI2 := hid (own_vs hIo); have HE2 := hid hE2; clear hE2 hIo) | fail "no arm")
  clear c0 c1 c2 c3 c4
  go_loopw [2, 3, 11] (fun lv lv' u wr => ∃ (k : Nat) (va va' : Option Addr) (vc vc' m : Nat), u = .int .i64 k ∧ k ≤ ps.length ∧ lv = .slice va m vc ∧ lv' = .slice va' m vc' ∧ m + (KS ts ps k).length = n' ∧ m ≤ vc ∧ m ≤ vc' ∧ Hid (Cs (d + 1) wr va (l.drop (KS ts ps k).length) ∧ Cs (d + 1) wr va' (l'.drop (KS ts ps k).length) ∧ Is wr ia ps ∧ (eqL (eqC ts (eqV ts d)) (KS ts ps k) l l').1 = true ∧ Ext [] w wr)) (fun _ _ u _ => (ps.length - (intOf u)).toNat)
  case atStart => exact ⟨0, a, a', c, c', n', rfl, by omega, rfl, rfl, by simp [KS], hnc, hnc', hid ⟨by simpa [KS] using HC.out.keep0 HE2.out, by simpa [KS] using HC'.out.keep0 HE2.out, HI2.out, by simp [KS, eqL], HE2.out⟩⟩
  case round =>
    obtain ⟨k, va, va', vc, vc', m, rfl, hk, rfl, rfl, hm, hmv, hmv', hR⟩ := hrel
    obtain ⟨hCk, hCk', hIk, hOkk, hEk⟩ := hR.out
    have HCk := hid hCk
    have HCk' := hid hCk'
    have HIk := hid hIk
    have HOkk := hid hOkk
    have HEk := hid hEk
    clear hCk hCk' hIk hOkk hEk hR
    by_cases hlt : k < ps.length
    · obtain ⟨ib, io, rfl, hcs⟩ := HIk.out.at_ hps
      have hck := hcs k hlt
      have hbp := HBL.out (ps.getD k 0) (by rw [show ps.getD k 0 = ps[k] by simp [hlt]]; exact List.getElem_mem _)
      obtain ⟨p, hp⟩ : ∃ p : Nat, ps.getD k 0 = p := ⟨(ps.getD k 0).toNat, by omega⟩
      have hks := KS_succ (ts := ts) hlt
      have hka := KS_all (ts := ts) (ps := ps) (k + 1)
      rw [hp] at hck hks
      have hln : (KS ts ps k).length + (kinds ts p).length ≤ n' := by
        rw [HNK.out, HKE.out, hka, List.length_append, hks, List.length_append]; omega
      have hw1 : 1 ≤ (kinds ts p).length := HK1.out p (by omega)
      have KW := KWD p (by omega) wr HEk.out
      rw [← HKL.out p (by omega)] at KW
      have hall : kinds ts t = (KS ts ps k ++ kinds ts p) ++ (ps.drop (k + 1)).flatMap (kinds ts) := by rw [HKE.out, hka, hks]
      have hpt : ∀ x : List Cl, x.length = n' → Okv ts (d + 1) (kinds ts t) x → Okv ts (d + 1) (kinds ts p) ((x.drop (KS ts ps k).length).take (kinds ts p).length) := fun x hx hok => by
        rw [hall, List.append_assoc] at hok
        have h3 := (okv_append (okv_len hok)).1 hok
        exact ((okv_append (okv_len h3.2)).1 h3.2).1
      have hsub : eqV ts (d + 1) p ((l.drop (KS ts ps k).length).take (kinds ts p).length) ((l'.drop (KS ts ps k).length).take (kinds ts p).length) = eqL (eqC ts (eqV ts d)) (kinds ts p) (l.drop (KS ts ps k).length) (l'.drop (KS ts ps k).length) := eqL_take _ _ _ _ (Nat.le_refl _)
      have HNO : Hid ((eqL (eqC ts (eqV ts d)) (kinds ts p) (l.drop (KS ts ps k).length) (l'.drop (KS ts ps k).length)).1 = false → res = (false, (eqL (eqC ts (eqV ts d)) (kinds ts p) (l.drop (KS ts ps k).length) (l'.drop (KS ts ps k).length)).2)) := fun h => by
        have e1 : eqL (eqC ts (eqV ts d)) (KS ts ps k ++ kinds ts p) l l' = eqL (eqC ts (eqV ts d)) (kinds ts p) (l.drop (KS ts ps k).length) (l'.drop (KS ts ps k).length) := by rw [eqL_app, if_pos HOkk.out]
        rw [HEV.out, hall, eqL_app, e1, if_neg (by rw [h]; simp)]
        exact Prod.ext h rfl
      have HYES : Hid ((eqL (eqC ts (eqV ts d)) (kinds ts p) (l.drop (KS ts ps k).length) (l'.drop (KS ts ps k).length)).1 = true → (eqL (eqC ts (eqV ts d)) (KS ts ps (k + 1)) l l').1 = true) := fun h => by
        rw [hks, eqL_app, if_pos HOkk.out]; exact h
      have HOkE : Hid ((eqL (eqC ts (eqV ts d)) (kinds ts p) (l.drop (KS ts ps k).length) (l'.drop (KS ts ps k).length)).1 = true → (eqL (eqC ts (eqV ts d)) (kinds ts p) (l.drop (KS ts ps k).length) (l'.drop (KS ts ps k).length)).2 = 0) := fun h => by rw [eqL_ok _ _ _ h]
      have HKS := hid hks
      obtain ⟨_, vb, vo, _, rfl, _⟩ := HCk.out.at_ (by rw [List.length_drop, HN.out]; omega)
      obtain ⟨_, vb', vo', _, rfl, _⟩ := HCk'.out.at_ (by rw [List.length_drop, HN'.out]; omega)
      have KR : Hid (∀ u, Ext [] wr u → Calls Tryd.prog 30 #[.slice (some ⟨b, o, none⟩) tn tc, .int .i64 p, .slice (some ⟨vb, vo, none⟩) (kinds ts p).length vc, .slice (some ⟨vb', vo', none⟩) (kinds ts p).length vc'] u (SayPost u (paV (eqL (eqC ts (eqV ts d)) (kinds ts p) (l.drop (KS ts ps k).length) (l'.drop (KS ts ps k).length))))) := fun u hu => by
        have K := HR1.out p (by omega) (some ⟨vb, vo, none⟩) ((l.drop (KS ts ps k).length).take (kinds ts p).length) (kinds ts p).length vc (some ⟨vb', vo', none⟩) ((l'.drop (KS ts ps k).length).take (kinds ts p).length) (kinds ts p).length vc' u (HEk.out.trans hu) ((HCk.out.take _).keep0 hu) (by rw [List.length_take, List.length_drop, HN.out]; omega) (by omega) (hpt l HN.out HOk.out) ((HCk'.out.take _).keep0 hu) (by rw [List.length_take, List.length_drop, HN'.out]; omega) (by omega) (hpt l' HN'.out HOk'.out)
        rw [hsub] at K
        exact K
      have HCD := hid (HCk.out.drop (kinds ts p).length)
      have HCD' := hid (HCk'.out.drop (kinds ts p).length)
      rw [List.drop_drop] at HCD HCD'
      have hkn : (k : Int) < ps.length := by omega
      clear hcs hbp hka hks KWD hall hpt hsub
      generalize hr : eqL (eqC ts (eqV ts d)) (kinds ts p) (l.drop (KS ts ps k).length) (l'.drop (KS ts ps k).length) = r at *
      clear hr
      generalize hoff : (KS ts ps k).length = off at *
      generalize hwk : (kinds ts p).length = wk at *
      have HOF := hid hoff
      have HWK := hid hwk
      clear hoff hwk
      have h2 : (wk : Int) ≤ vc := by omega
      have h2' : (wk : Int) ≤ vc' := by omega
      have h3 : (wk : Int) ≤ m := by omega
      have h4 : wk ≤ m := by omega
      obtain ⟨r1, r2⟩ := r
      unfold paV at KR
      simp only at KR HNO HYES HOkE
      go_upto_region 6 with (first | (go_at_call 33; refine KW.mono ?_; clear KW; rintro e w3 ⟨rfl, hE3⟩) | fail "no arm")
      have h3c := hE3.cell hck (by simp)
      have HE3 := hid hE3
      clear hE3 hck
      go_region_held3 (fun w' => w'.cell? ⟨ib, io + k, none⟩ = some (.int .i64 (p : Int)))
        (first | exact hE4.cell ((Ext.drew [] _).cell h3c (by simp)) (by simp) | go_keep)
        (first | (go_at_call 30; refine (KR.out _ (HE3.out.trans (Ext.drew [] w3))).mono ?_; rintro e w4 ⟨rfl, hE4⟩) | fail "no arm")
      have HE4 := hid ((HE3.out.trans (Ext.drew [] w3)).trans hE4)
      clear hE4 KR h3c HE3
      cases r1
      · have hr := HNO.out rfl
        subst hr
        by_cases hz : r2 = 0
        · subst hz
          go_wp2_with fail
          go_ret2
          exact ⟨rfl, HEk.out.trans HE4.out⟩
        · have hz2 : (r2 == 0) = false := by simpa using hz
          go_wp2_with fail
          go_ret2
          exact ⟨rfl, HEk.out.trans HE4.out⟩
      · have hz := HOkE.out rfl
        subst hz
        have HY := hid (HYES.out rfl)
        have HLK : Hid ((KS ts ps (k + 1)).length = off + wk) := by
          show (KS ts ps (k + 1)).length = off + wk
          rw [HKS.out, List.length_append, HOF.out, HWK.out]
        have HD1 : Hid (Cs (d + 1) w4 (some ⟨vb, vo + wk * 4, none⟩) (l.drop (off + wk))) := HCD.out.keep0 HE4.out
        have HD2 : Hid (Cs (d + 1) w4 (some ⟨vb', vo' + wk * 4, none⟩) (l'.drop (off + wk))) := HCD'.out.keep0 HE4.out
        have HD3 : Hid (m = wk → l.drop (off + wk) = [] ∧ l'.drop (off + wk) = []) := fun h => ⟨List.drop_eq_nil_of_le (by rw [HN.out]; omega), List.drop_eq_nil_of_le (by rw [HN'.out]; omega)⟩
        by_cases hv : wk < vc
        · have h5 : ¬ vc = wk := by omega
          have h6 : ¬ vc - wk = 0 := by omega
          by_cases hv' : wk < vc'
          · have h5' : ¬ vc' = wk := by omega
            have h6' : ¬ vc' - wk = 0 := by omega
            go_wp2_with fail
            go_roundw
            case rel =>
              refine ⟨k + 1, _, _, _, _, _, by go_num, by omega, rfl, rfl, ?_, by omega, by omega, hid ⟨?_, ?_, Is.keep0 HIk.out HE4.out, HY.out, HEk.out.trans HE4.out⟩⟩
              · rw [HLK.out]; omega
              · rw [HLK.out]; exact HD1.out
              · rw [HLK.out]; exact HD2.out
            case measure => simp [intOf]; omega
          · obtain rfl : vc' = wk := by omega
            go_wp2_with fail
            go_roundw
            case rel =>
              refine ⟨k + 1, _, _, _, _, _, by go_num, by omega, rfl, rfl, ?_, by omega, by omega, hid ⟨?_, ?_, Is.keep0 HIk.out HE4.out, HY.out, HEk.out.trans HE4.out⟩⟩
              · rw [HLK.out]; omega
              · rw [HLK.out]; exact HD1.out
              · rw [HLK.out, (HD3.out (by omega)).2]; exact Cs.nil _ _ _
            case measure => simp [intOf]; omega
        · obtain rfl : vc = wk := by omega
          by_cases hv' : vc < vc'
          · have h5' : ¬ vc' = vc := by omega
            have h6' : ¬ vc' - vc = 0 := by omega
            go_wp2_with fail
            go_roundw
            case rel =>
              refine ⟨k + 1, _, _, _, _, _, by go_num, by omega, rfl, rfl, ?_, by omega, by omega, hid ⟨?_, ?_, Is.keep0 HIk.out HE4.out, HY.out, HEk.out.trans HE4.out⟩⟩
              · rw [HLK.out]; omega
              · rw [HLK.out, (HD3.out (by omega)).1]; exact Cs.nil _ _ _
              · rw [HLK.out]; exact HD2.out
            case measure => simp [intOf]; omega
          · obtain rfl : vc' = vc := by omega
            go_wp2_with fail
            go_roundw
            case rel =>
              refine ⟨k + 1, _, _, _, _, _, by go_num, by omega, rfl, rfl, ?_, by omega, by omega, hid ⟨?_, ?_, Is.keep0 HIk.out HE4.out, HY.out, HEk.out.trans HE4.out⟩⟩
              · rw [HLK.out]; omega
              · rw [HLK.out, (HD3.out (by omega)).1]; exact Cs.nil _ _ _
              · rw [HLK.out, (HD3.out (by omega)).2]; exact Cs.nil _ _ _
            case measure => simp [intOf]; omega
    · have hkn : k = ps.length := by omega
      have HY : Hid (res = (true, 0)) := by
        have h1 := HOkk.out
        have h2 : KS ts ps k = kinds ts t := by rw [hkn, HKE.out, KS, List.take_length]
        rw [h2] at h1
        show res = _
        rw [HEV.out]; exact eqL_ok _ _ _ h1
      have hr := HY.out
      subst hr
      clear KWD HY HEV
      go_wp2_with fail
      go_ret2
      exact ⟨rfl, HEk.out⟩

end Go.Proofs.YtpjcbpgfbhlioaaDoor
