/-
  The reference's Fold of any values; Hash and Self; no statement is proved here.
-/
import Derived.Test.YtpjcbpgfbhlioaaDoorRHsB
namespace Go.Proofs.YtpjcbpgfbhlioaaDoor
open Go.RowKit

set_option maxRecDepth 100000 in
set_option maxHeartbeats 16000000 in
theorem rfparts_any (ts : List Ty) (ta : Option Addr) (tn tc : Nat) (htn : ts.length = tn) (hS : Sound ts) (d : Nat) (salt : Int) (t : Nat) (ht : t < tn) (hps : parts (tyAt ts t) ≠ []) (w : World) (hT : Tab w ta ts)
    (HR : ∀ p : Nat, p < t → ∀ (a : Option Addr) (l : List Cl) (n c : Nat) (s : Int) (u : World), Ext [] w u → U s → Cs (d + 1) u a l → l.length = n → n ≤ c → Okv ts (d + 1) (kinds ts p) l →
      Calls Tryd.prog 32 #[.slice ta tn tc, .int .i64 p, .slice a n c, .int .u64 s, .int .u64 salt] u (SayPost u (huV (fo (hsV ts salt (d + 1) p l s)))))
    (a : Option Addr) (l : List Cl) (n c : Nat) (s : Int) (hs : U s) (hC : Cs (d + 1) w a l) (hn : l.length = n) (hnc : n ≤ c) (hok : Okv ts (d + 1) (kinds ts t) l) :
    Calls Tryd.prog 32 #[.slice ta tn tc, .int .i64 t, .slice a n c, .int .u64 s, .int .u64 salt] w (SayPost w (huV (fo (hsV ts salt (d + 1) t l s)))) := by
  have hF := (hS.2.1 t (by omega)).1
  obtain ⟨b, o, rfl, hat⟩ := hT.addr (by omega)
  obtain ⟨fa, fc, hty⟩ := hat t (by omega)
  have K2 := parts_any (tyAt ts t) fa fc w hty.f (fun h9 => by have := hF.2.2.2.2.1 h9; omega)
  unfold tyVal at K2
  obtain ⟨c0, c1, c2, c3, c4, _⟩ := hty
  have hke := kinds_eq hS.2.1 (t := (t : Int)) (by omega) (by omega)
  rw [if_neg hps] at hke
  have HKE := hid hke
  have HC := hid hC
  have HOk := hid hok
  have HS0 := hid hs
  have HBL := hid hF.below
  have HR1 := hid HR
  have HKL : Hid (∀ p : Nat, p < tn → ((kinds ts p).length : Int) = (M ts p).width) := fun p hp => kinds_len hS.2.1 (p + 1) p (by omega) (by omega) (by omega)
  have HK1 : Hid (∀ p : Nat, p < tn → 1 ≤ (kinds ts p).length) := fun p hp => by have h1 := HKL.out p hp; have h2 := (sound_fit hS (i := p) (by omega)).1.w0; omega
  have KWD := fun (p : Nat) (hp : p < tn) u (hu : Ext [] w u) => widthOf_any ts (some ⟨b, o, none⟩) tn tc htn (p + 1) p (by omega) hp (fun j hj => hS.2.1 j (by omega)) (hS.2.1 p (by omega)).1 u (hT.keep0 hu)
  have hpp : 0 < (parts (tyAt ts t)).length := List.length_pos_iff.2 hps
  have hp1 : (0 : Int) < (parts (tyAt ts t)).length := by omega
  have hpl := parts_len hF
  have hnk : n = (kinds ts t).length := by rw [← hn]; exact okv_len hok
  have HNK := hid hnk
  have HN := hid hn
  have HEV : Hid (hsV ts salt (d + 1) t l s = hsL (hsC ts (hsV ts salt d) salt) (kinds ts t) l s) := rfl
  have hcl := hC.len
  rw [hn] at hcl
  clear hke hC hT hat hF hS hnk hok HR hn hs
  generalize hsV ts salt (d + 1) t l s = res at *
  generalize parts (tyAt ts t) = ps at *
  unfold huV
  go_enter Tryd.func32, Tryd.ntmps32
  go_upto_region 3 with (first | (go_at_call 20; refine K2.mono ?_; clear K2; rintro e w2 ⟨ia, ic, rfl, hIo, hE2⟩; have HI2 := hid (own_vs hIo); have HE2 := hid hE2; clear hE2 hIo) | fail "no arm")
  clear c0 c1 c2 c3 c4
  go_loopw [2, 3, 13] (fun lv sv u wr => ∃ (k : Nat) (va : Option Addr) (vc m : Nat) (s1 : Int), u = .int .i64 k ∧ k ≤ ps.length ∧ lv = .slice va m vc ∧ sv = .int .u64 s1 ∧ m + (KS ts ps k).length = n ∧ m ≤ vc ∧ Hid (Cs (d + 1) wr va (l.drop (KS ts ps k).length) ∧ Is wr ia ps ∧ U s1 ∧ hsL (hsC ts (hsV ts salt d) salt) (KS ts ps k) l s = some s1 ∧ Ext [] w wr)) (fun _ _ u _ => (ps.length - (intOf u)).toNat)
  case atStart => exact ⟨0, a, c, n, s, rfl, by omega, rfl, rfl, by simp [KS], hnc, hid ⟨by simpa [KS] using HC.out.keep0 HE2.out, HI2.out, HS0.out, by simp [KS, hsL], HE2.out⟩⟩
  case round =>
    obtain ⟨k, va, vc, m, s1, rfl, hk, rfl, rfl, hm, hmv, hR⟩ := hrel
    obtain ⟨hCk, hIk, hU1, hOkk, hEk⟩ := hR.out
    have HCk := hid hCk
    have HIk := hid hIk
    have HU1 := hid hU1
    have HOkk := hid hOkk
    have HEk := hid hEk
    clear hCk hIk hU1 hOkk hEk hR
    by_cases hlt : k < ps.length
    · obtain ⟨ib, io, rfl, hcs⟩ := HIk.out.at_ hps
      have hck := hcs k hlt
      have hbp := HBL.out (ps.getD k 0) (by rw [show ps.getD k 0 = ps[k] by simp [hlt]]; exact List.getElem_mem _)
      obtain ⟨p, hp⟩ : ∃ p : Nat, ps.getD k 0 = p := ⟨(ps.getD k 0).toNat, by omega⟩
      have hks := KS_succ (ts := ts) hlt
      have hka := KS_all (ts := ts) (ps := ps) (k + 1)
      rw [hp] at hck hks
      have hln : (KS ts ps k).length + (kinds ts p).length ≤ n := by
        rw [HNK.out, HKE.out, hka, List.length_append, hks, List.length_append]; omega
      have hw1 : 1 ≤ (kinds ts p).length := HK1.out p (by omega)
      have KW := KWD p (by omega) wr HEk.out
      rw [← HKL.out p (by omega)] at KW
      have hall : kinds ts t = (KS ts ps k ++ kinds ts p) ++ (ps.drop (k + 1)).flatMap (kinds ts) := by rw [HKE.out, hka, hks]
      have hpt : ∀ x : List Cl, x.length = n → Okv ts (d + 1) (kinds ts t) x → Okv ts (d + 1) (kinds ts p) ((x.drop (KS ts ps k).length).take (kinds ts p).length) := fun x hx hok => by
        rw [hall, List.append_assoc] at hok
        have h3 := (okv_append (okv_len hok)).1 hok
        exact ((okv_append (okv_len h3.2)).1 h3.2).1
      have hsub : hsV ts salt (d + 1) p ((l.drop (KS ts ps k).length).take (kinds ts p).length) s1 = hsL (hsC ts (hsV ts salt d) salt) (kinds ts p) (l.drop (KS ts ps k).length) s1 := hsL_take _ _ _ _ (Nat.le_refl _)
      have HUU : Hid (∀ h', hsL (hsC ts (hsV ts salt d) salt) (kinds ts p) (l.drop (KS ts ps k).length) s1 = some h' → U h') := fun h' e => hsV_U ts salt (d + 1) p (l.drop (KS ts ps k).length) s1 h' HU1.out e
      have e1 : hsL (hsC ts (hsV ts salt d) salt) (KS ts ps k ++ kinds ts p) l s = hsL (hsC ts (hsV ts salt d) salt) (kinds ts p) (l.drop (KS ts ps k).length) s1 := by rw [hsL_app, HOkk.out]; rfl
      have HNO : Hid (hsL (hsC ts (hsV ts salt d) salt) (kinds ts p) (l.drop (KS ts ps k).length) s1 = none → res = none) := fun h => by
        rw [HEV.out, hall, hsL_app, e1, h]; rfl
      have HYES : Hid (∀ h', hsL (hsC ts (hsV ts salt d) salt) (kinds ts p) (l.drop (KS ts ps k).length) s1 = some h' → hsL (hsC ts (hsV ts salt d) salt) (KS ts ps (k + 1)) l s = some h') := fun h' h => by
        rw [hks, e1]; exact h
      have HKS := hid hks
      obtain ⟨_, vb, vo, _, rfl, _⟩ := HCk.out.at_ (by rw [List.length_drop, HN.out]; omega)
      have KR : Hid (∀ u, Ext [] wr u → Calls Tryd.prog 32 #[.slice (some ⟨b, o, none⟩) tn tc, .int .i64 p, .slice (some ⟨vb, vo, none⟩) (kinds ts p).length vc, .int .u64 s1, .int .u64 salt] u (SayPost u (huV (fo (hsL (hsC ts (hsV ts salt d) salt) (kinds ts p) (l.drop (KS ts ps k).length) s1))))) := fun u hu => by
        have K := HR1.out p (by omega) (some ⟨vb, vo, none⟩) ((l.drop (KS ts ps k).length).take (kinds ts p).length) (kinds ts p).length vc s1 u (HEk.out.trans hu) HU1.out ((HCk.out.take _).keep0 hu) (by rw [List.length_take, List.length_drop, HN.out]; omega) (by omega) (hpt l HN.out HOk.out)
        rw [hsub] at K
        exact K
      have HCD := hid (HCk.out.drop (kinds ts p).length)
      rw [List.drop_drop] at HCD
      have hkn : (k : Int) < ps.length := by omega
      clear hcs hbp hka hks KWD hall hpt hsub e1
      generalize hr : hsL (hsC ts (hsV ts salt d) salt) (kinds ts p) (l.drop (KS ts ps k).length) s1 = r at *
      clear hr
      generalize hoff : (KS ts ps k).length = off at *
      generalize hwk : (kinds ts p).length = wk at *
      have HOF := hid hoff
      have HWK := hid hwk
      clear hoff hwk
      have h2 : (wk : Int) ≤ vc := by omega
      have h3 : (wk : Int) ≤ m := by omega
      have h4 : wk ≤ m := by omega
      have HR2 : Hid (∃ r1 r2, fo r = (r1, r2) ∧ (r = none → r1 = 0 ∧ r2 = 11) ∧ (∀ h', r = some h' → r1 = h' ∧ r2 = 0)) := ⟨(fo r).1, (fo r).2, rfl, (fun h => by rw [h]; exact ⟨rfl, rfl⟩), fun h' h => by rw [h]; exact ⟨rfl, rfl⟩⟩
      obtain ⟨r1, r2, hfo, hf1, hf2⟩ := HR2.out
      rw [hfo] at KR
      unfold huV at KR
      simp only at KR
      have HF1 := hid hf1
      have HF2 := hid hf2
      clear hfo hf1 hf2 HR2
      go_upto_region 6 with (first | (go_at_call 33; refine KW.mono ?_; clear KW; rintro e w3 ⟨rfl, hE3⟩) | fail "no arm")
      have h3c := hE3.cell hck (by simp)
      have HE3 := hid hE3
      clear hE3 hck
      go_region_held3 (fun w' => w'.cell? ⟨ib, io + k, none⟩ = some (.int .i64 (p : Int)))
        (first | exact hE4.cell ((Ext.drew [] _).cell h3c (by simp)) (by simp) | go_keep)
        (first | (go_at_call 32; refine (KR.out _ (HE3.out.trans (Ext.drew [] w3))).mono ?_; rintro e w4 ⟨rfl, hE4⟩) | fail "no arm")
      have HE4 := hid ((HE3.out.trans (Ext.drew [] w3)).trans hE4)
      clear hE4 KR h3c HE3
      cases hrr : r with
      | none =>
        obtain ⟨q1, q2⟩ := HF1.out hrr
        have hres := HNO.out hrr
        subst q1 q2 hres hrr
        clear HF1 HF2 HNO HYES HUU
        go_wp2_with fail
        go_ret2
        exact ⟨rfl, HEk.out.trans HE4.out⟩
      | some h' =>
        obtain ⟨q1, q2⟩ := HF2.out h' hrr
        have HY := hid (HYES.out h' hrr)
        have HUh := hid (HUU.out h' hrr)
        subst q1 q2 hrr
        clear HF1 HF2 HNO HYES HUU
        have HLK : Hid ((KS ts ps (k + 1)).length = off + wk) := by
          show (KS ts ps (k + 1)).length = off + wk
          rw [HKS.out, List.length_append, HOF.out, HWK.out]
        have HD1 : Hid (Cs (d + 1) w4 (some ⟨vb, vo + wk * 4, none⟩) (l.drop (off + wk))) := HCD.out.keep0 HE4.out
        have HD3 : Hid (m = wk → l.drop (off + wk) = []) := fun h => List.drop_eq_nil_of_le (by rw [HN.out]; omega)
        by_cases hv : wk < vc
        · have h5 : ¬ vc = wk := by omega
          have h6 : ¬ vc - wk = 0 := by omega
          go_wp2_with fail
          go_roundw
          case rel =>
            refine ⟨k + 1, _, _, _, _, by go_num, by omega, rfl, rfl, ?_, by omega, hid ⟨?_, Is.keep0 HIk.out HE4.out, HUh.out, HY.out, HEk.out.trans HE4.out⟩⟩
            · rw [HLK.out]; omega
            · rw [HLK.out]; exact HD1.out
          case measure => simp [intOf]; omega
        · obtain rfl : vc = wk := by omega
          go_wp2_with fail
          go_roundw
          case rel =>
            refine ⟨k + 1, _, _, _, _, by go_num, by omega, rfl, rfl, ?_, by omega, hid ⟨?_, Is.keep0 HIk.out HE4.out, HUh.out, HY.out, HEk.out.trans HE4.out⟩⟩
            · rw [HLK.out]; omega
            · rw [HLK.out, HD3.out (by omega)]; exact Cs.nil _ _ _
          case measure => simp [intOf]; omega
    · have hkn : k = ps.length := by omega
      have hr : res = some s1 := by
        have h1 := HOkk.out
        have h2 : KS ts ps k = kinds ts t := by rw [hkn, HKE.out, KS, List.take_length]
        rw [h2] at h1
        rw [HEV.out]; exact h1
      subst hr
      clear KWD HEV
      go_wp2_with fail
      go_ret2
      exact ⟨rfl, HEk.out⟩

theorem rfAt_any (ts : List Ty) (ta : Option Addr) (tn tc : Nat) (htn : ts.length = tn) (hS : Sound ts) (salt : Int) (w0 : World) (hT : Tab w0 ta ts) : ∀ d, RfAt ts ta tn tc d salt w0 := by
  intro d
  induction d with
  | zero =>
    intro t a l n c s w hE hs ht hC hn hnc hok
    have hkl := kinds_len hS.2.1 (t + 1) t (by omega) (by omega) (by omega)
    have hw1 := (sound_fit hS (i := t) (by omega)).1.w0
    obtain rfl : l = [] := hC
    have h0 : ([] : List Cl).length = (kinds ts t).length := hok
    simp only [List.length_nil] at h0
    omega
  | succ d ih =>
    intro t
    induction t using Nat.strongRecOn with
    | _ t iht =>
      intro a l n c s w hE hs ht hC hn hnc hok
      by_cases hps : parts (tyAt ts t) = []
      · have hk := kinds_eq hS.2.1 (t := (t : Int)) (by omega) (by omega)
        rw [if_pos hps] at hk
        have h1 : l.length = 1 := by rw [okv_len hok, hk]; rfl
        obtain ⟨d1, b0, o0, hd, rfl, hat⟩ := hC.at_ (by omega)
        obtain rfl : d1 = d := by omega
        obtain ⟨ba, bc, hx, hbx⟩ := hat 0 (by omega)
        rw [Nat.zero_mul, Nat.add_zero] at hx
        have K := rfleaf_any ts ta tn tc htn hS d1 salt w (hT.keep0 hE) (fun t a l n c s u hu => ih t a l n c s u (hE.trans hu)) t ht hps b0 o0 l c ba bc hx ⟨hbx, (hok.2 0 (by omega)).2⟩ s hs
        obtain rfl : n = 1 := by omega
        have hv : hsV ts salt (d1 + 1) t l s = hsC ts (hsV ts salt d1) salt (tyAt ts t).kind (cAt l 0) s := by
          show hsL _ (kinds ts t) l s = _
          rw [hk, hsL_one]
        rw [hv]
        exact K
      · exact rfparts_any ts ta tn tc htn hS d salt t ht hps w (hT.keep0 hE) (fun p hp a l n c s u hu hs => iht p hp a l n c s u (hE.trans hu) hs (by omega)) a l n c s hs hC hn hnc hok

set_option maxRecDepth 100000 in
set_option maxHeartbeats 1000000 in
theorem rhash_any (ts : List Ty) (ta : Option Addr) (tn tc : Nat) (htn : ts.length = tn) (d : Nat) (t : Int) (a : Option Addr) (l : List Cl) (c : Nat) (seed salt : Int) (hs : U seed) (w : World) (hC : Cs d w a l) (hnc : l.length ≤ c) (hT : Tab w ta ts) :
    Calls Tryd.prog 17 #[.slice ta tn tc, .int .i64 t, .slice a l.length c, .int .u64 seed, .int .u64 salt] w (SayPost w (huV (hsR ts d t l seed salt))) := by
  have K1 := rbadv_any ts ta tn tc htn d t a l c w hC hnc hT
  by_cases h0 : vk1 ts d t l = 0
  · obtain ⟨z1, _⟩ := vk1_zero h0
    obtain ⟨hb, ho⟩ := vchk_zero z1
    obtain ⟨hS, q0, q1⟩ := bad_zero hb
    obtain ⟨q, rfl⟩ : ∃ q : Nat, t = q := ⟨t.toNat, by omega⟩
    have K2 : Hid (∀ u, Ext [] w u → Calls Tryd.prog 32 #[.slice ta tn tc, .int .i64 q, .slice a l.length c, .int .u64 seed, .int .u64 salt] u (SayPost u (huV (fo (hsV ts salt d q l seed))))) := fun u hu => rfAt_any ts ta tn tc htn hS salt w hT d q a l _ c seed u hu hs (by omega) (hC.keep0 hu) rfl hnc ho.2
    have he : hsR ts d q l seed salt = fo (hsV ts salt d q l seed) := by unfold hsR; rw [if_pos h0]; rfl
    rw [he]
    rw [h0] at K1
    clear he h0 z1 hb ho hS q0 q1 hC hT hnc hs
    generalize fo (hsV ts salt d q l seed) = r at *
    generalize l.length = n at *
    unfold huV at K2 ⊢
    go_enter Tryd.func17, Tryd.ntmps17
    go_wp2_with (first | (go_at_call 29; refine K1.mono ?_; clear K1; rintro e w1 ⟨rfl, hE1⟩; have K2a := K2.out w1 hE1; replace hE1 := hid hE1) | (go_at_call 32; refine K2a.mono ?_; clear K2a; rintro e w2 ⟨rfl, hE2⟩; replace hE2 := hid (hE1.out.trans hE2)) | fail "no arm")
    go_ret2
    exact ⟨rfl, hE2.out⟩
  · have he : hsR ts d t l seed salt = (0, vk1 ts d t l) := by unfold hsR; rw [if_neg h0]
    rw [he]
    have hb : (vk1 ts d t l == 0) = false := by simpa using h0
    clear he h0 hC hT hnc hs
    generalize vk1 ts d t l = er at *
    generalize l.length = n at *
    unfold huV
    simp only
    go_enter Tryd.func17, Tryd.ntmps17
    go_wp2_with (first | (go_at_call 29; refine K1.mono ?_; clear K1; rintro e w1 ⟨rfl, hE1⟩; replace hE1 := hid hE1) | fail "no arm")
    go_ret2
    exact ⟨rfl, hE1.out⟩

set_option maxRecDepth 100000 in
set_option maxHeartbeats 1000000 in
theorem rself_any (ts : List Ty) (ta : Option Addr) (tn tc : Nat) (htn : ts.length = tn) (d : Nat) (t : Int) (a : Option Addr) (l : List Cl) (c : Nat) (w : World) (hC : Cs d w a l) (hnc : l.length ≤ c) (hT : Tab w ta ts) :
    Calls Tryd.prog 19 #[.slice ta tn tc, .int .i64 t, .slice a l.length c] w (fun e w' => ∃ r : Bool × Int, e = .returned (paV r) ∧ Hid (r = (if (hsR ts d t l 0 0).2 = 0 then ((eqV ts d t l l).1, 0) else (false, (hsR ts d t l 0 0).2))) ∧ Ext [] w w') := by
  have K1 := rhash_any ts ta tn tc htn d t a l c 0 0 ⟨by omega, by omega⟩ w hC hnc hT
  by_cases h0 : (hsR ts d t l 0 0).2 = 0
  · obtain ⟨z1, _⟩ := vk1_zero (hsR_zero h0)
    obtain ⟨hb, ho⟩ := vchk_zero z1
    obtain ⟨hS, q0, q1⟩ := bad_zero hb
    obtain ⟨q, rfl⟩ : ∃ q : Nat, t = q := ⟨t.toNat, by omega⟩
    have K2 : Hid (∀ u, Ext [] w u → Calls Tryd.prog 30 #[.slice ta tn tc, .int .i64 q, .slice a l.length c, .slice a l.length c] u (SayPost u (paV (eqV ts d q l l)))) := fun u hu => rqAt_any ts ta tn tc htn hS w hT d q a l _ c a l _ c u hu (by omega) (hC.keep0 hu) rfl hnc ho.2 (hC.keep0 hu) rfl hnc ho.2
    have HR : Hid ((((eqV ts d q l l).1, 0) : Bool × Int) = (if (hsR ts d q l 0 0).2 = 0 then ((eqV ts d q l l).1, 0) else (false, (hsR ts d q l 0 0).2))) := by
      show _ = _
      rw [if_pos h0]
    generalize (if (hsR ts d q l 0 0).2 = 0 then ((eqV ts d q l l).1, (0 : Int)) else (false, (hsR ts d q l 0 0).2)) = goal at *
    unfold huV at K1
    rw [h0] at K1
    clear h0 z1 hb ho hS q0 q1 hC hT hnc
    generalize (hsR ts d q l 0 0).1 = hh at *
    generalize eqV ts d q l l = r at *
    generalize l.length = n at *
    unfold paV at K2 ⊢
    go_enter Tryd.func19, Tryd.ntmps19
    go_wp2_with (first | (go_at_call 17; refine K1.mono ?_; clear K1; rintro e w1 ⟨rfl, hE1⟩; have K2a := K2.out w1 hE1; replace hE1 := hid hE1) | (go_at_call 30; refine K2a.mono ?_; clear K2a; rintro e w2 ⟨rfl, hE2⟩; replace hE2 := hid (hE1.out.trans hE2)) | fail "no arm")
    go_ret2
    exact ⟨(r.1, 0), rfl, HR, hE2.out⟩
  · have HR : Hid ((false, (hsR ts d t l 0 0).2) = (if (hsR ts d t l 0 0).2 = 0 then ((eqV ts d t l l).1, 0) else (false, (hsR ts d t l 0 0).2))) := by
      show _ = _
      rw [if_neg h0]
    generalize (if (hsR ts d t l 0 0).2 = 0 then ((eqV ts d t l l).1, (0 : Int)) else (false, (hsR ts d t l 0 0).2)) = goal at *
    have hb : ((hsR ts d t l 0 0).2 == 0) = false := by simpa using h0
    unfold huV at K1
    clear h0 hC hT hnc
    generalize (hsR ts d t l 0 0).1 = hh at *
    generalize (hsR ts d t l 0 0).2 = er at *
    generalize l.length = n at *
    unfold paV
    go_enter Tryd.func19, Tryd.ntmps19
    go_wp2_with (first | (go_at_call 17; refine K1.mono ?_; clear K1; rintro e w1 ⟨rfl, hE1⟩; replace hE1 := hid hE1) | fail "no arm")
    go_ret2
    exact ⟨(false, er), rfl, HR, hE1.out⟩

end Go.Proofs.YtpjcbpgfbhlioaaDoor
