/-
  The reference's test of a value; no statement is proved here.
-/
import Derived.Test.YtfabhhmeanpmhaaDoorRCell
namespace Go.Proofs.YtfabhhmeanpmhaaDoor
open Go.RowKit

theorem okv_len {ts : List Ty} {d : Nat} {ks : List Int} {l : List Cl} (h : Okv ts d ks l) : l.length = ks.length := by
  cases d with
  | zero => exact h
  | succ d => exact h.1
theorem cAt_take {l : List Cl} {p i : Nat} (hi : i < p) : cAt (l.take p) i = cAt l i := by
  simp only [cAt, List.getD]; rw [List.getElem?_take, if_pos hi]
theorem cAt_drop {l : List Cl} {p i : Nat} : cAt (l.drop p) i = cAt l (p + i) := by
  simp only [cAt, List.getD]; rw [List.getElem?_drop]
theorem okv_append {ts : List Ty} {d : Nat} {a b : List Int} {l : List Cl} (hl : l.length = (a ++ b).length) : Okv ts d (a ++ b) l ↔ Okv ts d a (l.take a.length) ∧ Okv ts d b (l.drop a.length) := by
  rw [List.length_append] at hl
  have h1 : (l.take a.length).length = a.length := by rw [List.length_take]; omega
  have h2 : (l.drop a.length).length = b.length := by rw [List.length_drop]; omega
  cases d with
  | zero => exact ⟨fun _ => ⟨h1, h2⟩, fun _ => by show l.length = _; rw [List.length_append]; exact hl⟩
  | succ d =>
    constructor
    · intro h
      refine ⟨⟨h1, fun i hi => ?_⟩, ⟨h2, fun i hi => ?_⟩⟩
      · have := h.2 i (by omega)
        rw [cAt_take (by omega)]
        rwa [show (a ++ b).getD i 0 = a.getD i 0 by simp only [List.getD]; rw [List.getElem?_append_left (by omega)]] at this
      · have := h.2 (a.length + i) (by omega)
        rw [cAt_drop]
        rwa [show (a ++ b).getD (a.length + i) 0 = b.getD i 0 by simp only [List.getD]; rw [List.getElem?_append_right (by omega), Nat.add_sub_cancel_left]] at this
    · rintro ⟨ha, hb⟩
      refine ⟨by rw [List.length_append]; exact hl, fun i hi => ?_⟩
      by_cases h : i < a.length
      · have := ha.2 i (by omega)
        rw [cAt_take (by omega)] at this
        rwa [show (a ++ b).getD i 0 = a.getD i 0 by simp only [List.getD]; rw [List.getElem?_append_left (by omega)]]
      · have := hb.2 (i - a.length) (by omega)
        rw [cAt_drop, show a.length + (i - a.length) = i by omega] at this
        rwa [show (a ++ b).getD i 0 = b.getD (i - a.length) 0 by simp only [List.getD]; rw [List.getElem?_append_right (by omega)]]

theorem okv_one {ts : List Ty} {d : Nat} {k : Int} {l : List Cl} (hl : l.length = 1) : Okv ts (d + 1) [k] l ↔ CellOk ts k (cAt l 0).n (cAt l 0).s (cAt l 0).t (cAt l 0).box.length (Okv ts d (kinds ts ((cAt l 0).t - 1)) (cAt l 0).box) := by
  constructor
  · intro h
    have := h.2 0 (by omega)
    exact ⟨this.1, this.2⟩
  · intro h
    refine ⟨by simpa using hl, fun i hi => ?_⟩
    obtain rfl : i = 0 := by omega
    exact ⟨h.fit, h.box⟩

theorem Cs.take {d : Nat} {w : World} {a : Option Addr} {l : List Cl} (h : Cs d w a l) (q : Nat) : Cs d w a (l.take q) := by
  by_cases h0 : 0 < l.length
  · obtain ⟨d', b, o, rfl, rfl, hat⟩ := h.at_ h0
    refine ⟨by have := h.len; rw [List.length_take]; omega, .inr ⟨b, o, rfl, fun i hi => ?_⟩⟩
    rw [List.length_take] at hi
    rw [cAt_take (by omega)]
    exact hat i (by omega)
  · obtain rfl : l = [] := List.length_eq_zero_iff.1 (by omega)
    simpa using h
theorem Cs.drop {d : Nat} {w : World} {b o : Nat} {l : List Cl} (h : Cs d w (some ⟨b, o, none⟩) l) (p : Nat) : Cs d w (some ⟨b, o + p * 4, none⟩) (l.drop p) := by
  by_cases h0 : p < l.length
  · have := h.sub (p := p) (q := l.length) (by omega) (Nat.le_refl _)
    rwa [List.take_length] at this
  · rw [List.drop_eq_nil_of_le (by omega)]; exact Cs.nil _ _ _

/-- The kinds of the first k parts. -/
def KS (ts : List Ty) (ps : List Int) (k : Nat) : List Int := (ps.take k).flatMap (kinds ts)
theorem KS_succ {ts : List Ty} {ps : List Int} {k : Nat} (h : k < ps.length) : KS ts ps (k + 1) = KS ts ps k ++ kinds ts (ps.getD k 0) := by
  unfold KS
  rw [List.take_succ_eq_append_getElem h, List.flatMap_append, show ps.getD k 0 = ps[k] by simp [h]]; simp
theorem KS_all {ts : List Ty} {ps : List Int} (k : Nat) : ps.flatMap (kinds ts) = KS ts ps k ++ (ps.drop k).flatMap (kinds ts) := by
  unfold KS
  rw [← List.flatMap_append, List.take_append_drop]

set_option maxRecDepth 100000 in
set_option maxHeartbeats 1000000 in
theorem rsound_any (ts : List Ty) (ta : Option Addr) (tn tc : Nat) (htn : ts.length = tn) (hS : Sound ts) : ∀ (d N t : Nat), t < N → t < tn → ∀ (a : Option Addr) (l : List Cl) (n c : Nat) (w : World), Cs d w a l → l.length = n → n ≤ c → Tab w ta ts →
    Calls Tryd.prog 30 #[.slice ta tn tc, .int .i64 t, .slice a n c] w (TestPost w (Okv ts d (kinds ts t) l)) := by
  intro d
  induction d with
  | zero =>
    intro N t _ ht a l n c w hC hn hnc hT
    obtain rfl : l = [] := hC
    obtain rfl : n = 0 := by simpa using hn.symm
    have K1 := widthOf_any ts ta tn tc htn (t + 1) t (by omega) ht (fun j hj => hS.2.1 j (by omega)) (hS.2.1 t (by omega)).1 w hT
    have hkl := kinds_len hS.2.1 (t + 1) t (by omega) (by omega) (by omega)
    have hw := (sound_fit hS (i := t) (by omega)).1.w0
    have HN : Hid (¬ Okv ts 0 (kinds ts t) []) := fun h => by have := okv_len h; simp at this; omega
    generalize (M ts (t : Int)).width = wd at *
    have h1 : ((0 : Int) == wd) = false := by simp; omega
    have h2 : ¬ ((0 : Int) = wd) := by omega
    clear hT hS hkl hw hnc
    go_enter Tryd.func30, Tryd.ntmps30
    go_wp2_with (go_at_call 53; refine K1.mono ?_; rintro e w1 ⟨rfl, hE1⟩)
    go_ret
    exact test_false HN.out hE1
  | succ d ihd =>
    intro N
    induction N with
    | zero => intro t h; omega
    | succ N ihN =>
      intro t htN ht a l n c w hC hn hnc hT
      have hF := (hS.2.1 t (by omega)).1
      have K1 := widthOf_any ts ta tn tc htn (t + 1) t (by omega) ht (fun j hj => hS.2.1 j (by omega)) hF w hT
      have hkl := kinds_len hS.2.1 (t + 1) t (by omega) (by omega) (by omega)
      rw [← hkl] at K1
      by_cases hnk : n = (kinds ts t).length
      · obtain ⟨b, o, rfl, hat⟩ := hT.addr (by omega)
        obtain ⟨fa, fc, hty⟩ := hat t (by omega)
        have HTY := hid hty
        have K2 := fun u (hu : Ext [] w u) => parts_any (tyAt ts t) fa fc u (hty.keep0 hu).f (fun h9 => by have := hF.2.2.2.2.1 h9; omega)
        unfold tyVal at K2
        rw [← hnk] at K1
        have hke := kinds_eq hS.2.1 (t := (t : Int)) (by omega) (by omega)
        by_cases hps : parts (tyAt ts t) = []
        · rw [if_pos hps] at hke
          rw [hke] at hnk
          obtain rfl : n = 1 := by simpa using hnk
          rw [hps] at K2
          rw [hke]
          obtain ⟨d', b0, o0, hd, rfl, hcl⟩ := hC.at_ (by omega)
          obtain rfl : d' = d := by omega
          obtain ⟨ba, bc, hc0, hbx⟩ := hcl 0 (by omega)
          have HC0 := hid hc0
          have hlf := kinds_leaf hS.2.1 (t + 1) t (by omega) (by omega) (by omega) (tyAt ts t).kind (by rw [hke]; simp)
          have KC := fun u (hu : Ext [] w u) => rcell_any ts (some ⟨b, o, none⟩) tn tc htn (tyAt ts t).kind (cAt l 0).n (cAt l 0).s (cAt l 0).t ba (cAt l 0).box.length bc u (hT.keep0 hu) hlf (Okv ts d' (kinds ts ((cAt l 0).t - 1)) (cAt l 0).box)
            (fun q hq hqn v hv => by rw [show (cAt l 0).t - 1 = (q : Int) by omega]; exact ihd (q + 1) q (by omega) hqn ba _ _ bc v ((hbx.keep0 hu).keep0 hv) rfl hc0.cap ((hT.keep0 hu).keep0 hv))
          have HOne := hid (okv_one (ts := ts) (d := d') (k := (tyAt ts t).kind) (l := l) (by omega))
          clear ihd ihN hcl hbx hlf hke hps hkl hC hT hat hty hF hS hc0 hd hnk hnc hn htN
          generalize Okv ts d' (kinds ts ((cAt l 0).t - 1)) (cAt l 0).box = OK at *
          go_enter Tryd.func30, Tryd.ntmps30
          go_upto_region 5 with (first
            | (go_at_call 53
               refine K1.mono ?_
               rintro e w1 ⟨rfl, hE1⟩
               obtain ⟨c0, c1, c2, c3, c4, _⟩ := HTY.out.keep0 hE1
               have HE1 := hid hE1
               clear hE1)
            | (go_at_call 25
               refine (K2 _ HE1.out).mono ?_
               rintro e w2 ⟨ia, ic, rfl, _, hE2⟩
               have HE2 := hid (HE1.out.trans hE2)
               clear hE2))
          have hT2 := HTY.out.keep0 HE2.out
          have hC2 := HC0.out.keep0 HE2.out
          simp only [Nat.zero_mul, Nat.add_zero] at hC2
          have z0 := hT2.c0
          have x0 := hC2.c0
          have x1 := hC2.c1
          have x2 := hC2.c2
          have x3 := hC2.c3
          clear c0 c1 c2 c3 c4 hT2 hC2
          have KC2 := KC _ (HE2.out.trans (Ext.drew [] w2))
          clear KC K1 K2
          generalize (tyAt ts t).kind = kd at *
          generalize (cAt l 0).box.length = bl at *
          generalize (cAt l 0).n = cn at *
          generalize (cAt l 0).s = cs at *
          generalize (cAt l 0).t = ct at *
          go_region_held3 (fun w' => w'.cell? ⟨b, o + t * 5, none⟩ = some (.int .i64 kd) ∧ w'.cell? ⟨b0, o0, none⟩ = some (.int .u64 cn) ∧ w'.cell? ⟨b0, o0 + 1, none⟩ = some (.string cs) ∧ w'.cell? ⟨b0, o0 + 2, none⟩ = some (.int .i64 ct) ∧ w'.cell? ⟨b0, o0 + 3, none⟩ = some (.slice ba bl bc))
            (first | exact ⟨hE4.cell ((Ext.drew [] _).cell z0 (by simp)) (by simp), hE4.cell ((Ext.drew [] _).cell x0 (by simp)) (by simp), hE4.cell ((Ext.drew [] _).cell x1 (by simp)) (by simp), hE4.cell ((Ext.drew [] _).cell x2 (by simp)) (by simp), hE4.cell ((Ext.drew [] _).cell x3 (by simp)) (by simp)⟩ | go_keep)
            (first | (go_at_call 54; refine KC2.mono ?_; rintro e w4 ⟨r, rfl, hE4, hr⟩))
          have HE4 := hid ((HE2.out.trans (Ext.drew [] w2)).trans hE4)
          go_wp2_with fail
          go_ret
          exact ⟨r, rfl, HE4.out, hr.trans HOne.out.symm⟩
        · rw [if_neg hps] at hke
          have HKE := hid hke
          have HC := hid hC
          have HT := hid hT
          have HIH := hid ihN
          have HBL := hid hF.below
          have HKL : Hid (∀ p : Nat, p < tn → ((kinds ts p).length : Int) = (M ts p).width) := fun p hp => kinds_len hS.2.1 (p + 1) p (by omega) (by omega) (by omega)
          have HK1 : Hid (∀ p : Nat, p < tn → 1 ≤ (kinds ts p).length) := fun p hp => by have h1 := HKL.out p hp; have h2 := (sound_fit hS (i := p) (by omega)).1.w0; omega
          have KWD := fun (p : Nat) (hp : p < tn) u (hu : Ext [] w u) => widthOf_any ts (some ⟨b, o, none⟩) tn tc htn (p + 1) p (by omega) hp (fun j hj => hS.2.1 j (by omega)) (hS.2.1 p (by omega)).1 u (hT.keep0 hu)
          have hp1 : (((parts (tyAt ts t)).length : Int) == 0) = false := by have := List.length_pos_iff.2 hps; simp; omega
          have hp2 : ¬ (((parts (tyAt ts t)).length : Int) = 0) := by have := List.length_pos_iff.2 hps; omega
          have hpl := parts_len hF
          have HNK := hid hnk
          have HCL := hid hC.len
          clear ihd ihN hke hkl hC hT hat hty hF hS hnk
          generalize parts (tyAt ts t) = ps at *
          go_enter Tryd.func30, Tryd.ntmps30
          go_upto_region 7 with (first
            | (go_at_call 53
               refine K1.mono ?_
               rintro e w1 ⟨rfl, hE1⟩
               obtain ⟨c0, c1, c2, c3, c4, _⟩ := HTY.out.keep0 hE1
               have HE1 := hid hE1
               clear hE1)
            | (go_at_call 25
               refine (K2 _ HE1.out).mono ?_
               rintro e w2 ⟨ia, ic, rfl, hIo, hE2⟩
               have HI2 := hid (own_vs hIo)
               have HE2 := hid (HE1.out.trans hE2)
               clear hE2 hIo))
          clear K1 K2 c0 c1 c2 c3 c4
          go_loopw [2, 8] (fun lv u wr => ∃ (k : Nat) (va : Option Addr) (vc m : Nat), u = .int .i64 k ∧ k ≤ ps.length ∧ lv = .slice va m vc ∧ m + (KS ts ps k).length = n ∧ m ≤ vc ∧ Cs (d + 1) wr va (l.drop (KS ts ps k).length) ∧ Is wr ia ps ∧ Okv ts (d + 1) (KS ts ps k) (l.take (KS ts ps k).length) ∧ Ext [] w wr) (fun _ u _ => (ps.length - (intOf u)).toNat)
          case atStart => exact ⟨0, a, c, n, rfl, by omega, rfl, by simp [KS], hnc, by simpa [KS] using HC.out.keep0 HE2.out, HI2.out, ⟨by simp [KS], fun i hi => by simp [KS] at hi⟩, HE2.out⟩
          case round =>
            obtain ⟨k, va, vc, m, rfl, hk, rfl, hm, hmv, hCk, hIk, hOk, hEk⟩ := hrel
            have HCk := hid hCk
            have HIk := hid hIk
            have HOk := hid hOk
            have HEk := hid hEk
            clear hCk hIk hOk hEk
            by_cases hlt : k < ps.length
            · obtain ⟨ib, io, rfl, hcs⟩ := HIk.out.at_ hps
              have hck := hcs k hlt
              have hbp := HBL.out (ps.getD k 0) (by rw [show ps.getD k 0 = ps[k] by simp [hlt]]; exact List.getElem_mem _)
              obtain ⟨p, hp⟩ : ∃ p : Nat, ps.getD k 0 = p := ⟨(ps.getD k 0).toNat, by omega⟩
              have hks := KS_succ (ts := ts) hlt
              have hka := KS_all (ts := ts) (ps := ps) (k + 1)
              rw [hp] at hck hks
              have hln : (KS ts ps k).length + (kinds ts p).length ≤ n := by
                rw [HNK.out, HKE.out, hka, List.length_append, hks, List.length_append]; omega
              have hw1 : 1 ≤ (kinds ts p).length := HK1.out p (by omega)
              have KW := KWD p (by omega) wr HEk.out
              rw [← HKL.out p (by omega)] at KW
              have HNO : Hid (¬ Okv ts (d + 1) (kinds ts p) ((l.drop (KS ts ps k).length).take (kinds ts p).length) → ¬ Okv ts (d + 1) (kinds ts t) l) := fun h1 h2 => by
                rw [HKE.out, hka, hks, List.append_assoc] at h2
                have h3 := (okv_append (by rw [← List.append_assoc, ← hks, ← hka, ← HKE.out, hn]; exact HNK.out)).1 h2
                have h4 := (okv_append (by have := okv_len h3.2; exact this)).1 h3.2
                exact h1 h4.1
              have HYES : Hid (Okv ts (d + 1) (kinds ts p) ((l.drop (KS ts ps k).length).take (kinds ts p).length) → Okv ts (d + 1) (KS ts ps (k + 1)) (l.take (KS ts ps (k + 1)).length)) := fun h1 => by
                rw [hks]
                refine (okv_append (by rw [List.length_take, List.length_append]; omega)).2 ⟨?_, ?_⟩
                · rw [List.take_take, List.length_append, Nat.min_eq_left (by omega)]; exact HOk.out
                · rw [List.length_append, List.drop_take, Nat.add_sub_cancel_left]; exact h1
              have HKS := hid hks
              obtain ⟨_, vb, vo, _, rfl, _⟩ := HCk.out.at_ (by rw [List.length_drop]; omega)
              have KR := fun u (hu : Ext [] wr u) => HIH.out p (by omega) (by omega) (some ⟨vb, vo, none⟩) ((l.drop (KS ts ps k).length).take (kinds ts p).length) (kinds ts p).length vc u ((HCk.out.take _).keep0 hu) (by rw [List.length_take, List.length_drop]; omega) (by omega) ((HT.out.keep0 HEk.out).keep0 hu)
              have HCD := hid (HCk.out.drop (kinds ts p).length)
              rw [List.drop_drop] at HCD
              have hkn : (k : Int) < ps.length := by omega
              clear hcs hbp hka hks KWD
              generalize hoff : (KS ts ps k).length = off at *
              generalize hwk : (kinds ts p).length = wk at *
              have h2 : (wk : Int) ≤ vc := by omega
              have h3 : (wk : Int) ≤ m := by omega
              have h4 : wk ≤ m := by omega
              by_cases ho : Okv ts (d + 1) (kinds ts p) ((l.drop off).take wk)
              · have KR2 := fun u hu => test_yes (KR u hu) ho
                have HO1 := hid (HYES.out ho)
                clear KR ho
                go_upto_region 10 with (go_at_call 53; refine KW.mono ?_; rintro e w3 ⟨rfl, hE3⟩)
                have h3c := hE3.cell hck (by simp)
                have HE3 := hid hE3
                clear hE3 hck
                go_region_held3 (fun w' => w'.cell? ⟨ib, io + k, none⟩ = some (.int .i64 (p : Int)))
                  (first | exact hE4.cell ((Ext.drew [] _).cell h3c (by simp)) (by simp) | go_keep)
                  (first | (go_at_call 30; refine (KR2 _ (HE3.out.trans (Ext.drew [] w3))).mono ?_; rintro e w4 ⟨rfl, hE4⟩))
                have HE4 := hid ((HE3.out.trans (Ext.drew [] w3)).trans hE4)
                clear hE4 KR2
                by_cases hv : wk < vc
                · have h5 : ¬ vc = wk := by omega
                  have h6 : ¬ vc - wk = 0 := by omega
                  go_wp2_with fail
                  go_roundw
                  case rel =>
                    refine ⟨k + 1, _, _, _, by go_num, by omega, rfl, ?_, by omega, ?_, Is.keep0 HIk.out HE4.out, HO1.out, HEk.out.trans HE4.out⟩
                    · rw [HKS.out, List.length_append]; omega
                    · rw [HKS.out, List.length_append, hoff, hwk]; exact HCD.out.keep0 HE4.out
                  case measure => simp [intOf]; omega
                · obtain rfl : vc = wk := by omega
                  go_wp2_with fail
                  go_roundw
                  case rel =>
                    refine ⟨k + 1, _, _, _, by go_num, by omega, rfl, ?_, by omega, ?_, Is.keep0 HIk.out HE4.out, HO1.out, HEk.out.trans HE4.out⟩
                    · rw [HKS.out, List.length_append]; omega
                    · rw [HKS.out, List.length_append, hoff, hwk, List.drop_eq_nil_of_le (by omega)]; exact Cs.nil _ _ _
                  case measure => simp [intOf]; omega
              · have KR2 := fun u hu => test_no (KR u hu) ho
                have HO1 := hid (HNO.out ho)
                clear KR ho
                go_upto_region 10 with (go_at_call 53; refine KW.mono ?_; rintro e w3 ⟨rfl, hE3⟩)
                have h3c := hE3.cell hck (by simp)
                have HE3 := hid hE3
                clear hE3 hck
                go_region_held3 (fun w' => w'.cell? ⟨ib, io + k, none⟩ = some (.int .i64 (p : Int)))
                  (first | exact hE4.cell ((Ext.drew [] _).cell h3c (by simp)) (by simp) | go_keep)
                  (first | (go_at_call 30; refine (KR2 _ (HE3.out.trans (Ext.drew [] w3))).mono ?_; rintro e w4 ⟨rfl, hE4⟩))
                have HE4 := hid ((HE3.out.trans (Ext.drew [] w3)).trans hE4)
                clear hE4 KR2
                go_wp2_with fail
                go_ret
                exact test_false HO1.out (HEk.out.trans HE4.out)
            · obtain rfl : k = ps.length := by omega
              have hkn : ¬ ((ps.length : Int) < (ps.length : Int)) := by omega
              have HY : Hid (Okv ts (d + 1) (kinds ts t) l) := by
                have h1 := HOk.out
                have h2 : KS ts ps ps.length = kinds ts t := by rw [HKE.out, KS, List.take_length]
                rw [h2, ← HNK.out, ← hn, List.take_length] at h1
                exact h1
              clear hlt hk KWD
              go_wp2_with fail
              go_ret
              exact test_true HY.out HEk.out
      · have h1 : ((n : Int) == ((kinds ts t).length : Int)) = false := by simp; omega
        have HN : Hid (¬ Okv ts (d + 1) (kinds ts t) l) := fun h => hnk (by rw [← hn]; exact okv_len h)
        generalize (kinds ts t).length = kl at *
        clear hC hT ihd ihN hnk
        go_enter Tryd.func30, Tryd.ntmps30
        go_wp2_with (go_at_call 53; refine K1.mono ?_; rintro e w1 ⟨rfl, hE1⟩)
        go_ret
        exact test_false HN.out hE1

end Go.Proofs.YtfabhhmeanpmhaaDoor
