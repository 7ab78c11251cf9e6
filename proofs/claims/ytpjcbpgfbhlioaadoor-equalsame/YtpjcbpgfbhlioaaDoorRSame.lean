/-
  The reference's Same at any two lists of cells; no statement is proved here.
-/
import Derived.Test.YtpjcbpgfbhlioaaDoorSameM
import Derived.Test.YtpjcbpgfbhlioaaDoorEq
import Derived.Deep.RegionHeld3
import Derived.BigQuiet
namespace Go.Proofs.YtpjcbpgfbhlioaaDoor
open Go.RowKit

set_option maxRecDepth 100000 in
set_option maxHeartbeats 4000000 in
theorem rsame_any : ∀ (d : Nat) (a a' : Option Addr) (l l' : List Cl) (n n' c c' : Nat) (w : World), Cs d w a l → Cs d w a' l' → l.length = n → l'.length = n' →
    Calls Tryd.prog 22 #[.slice a n c, .slice a' n' c'] w (TestPost w (l = l')) := by
  intro d
  induction d with
  | zero =>
    intro a a' l l' n n' c c' w hC hC' hn hn'
    obtain rfl : l = [] := hC
    obtain rfl : l' = [] := hC'
    obtain rfl : n = 0 := by simpa using hn.symm
    obtain rfl : n' = 0 := by simpa using hn'.symm
    refine (rsame_true 0 a a' [] 0 c c' 0 w rfl rfl rfl).mono ?_
    rintro e w' ⟨rfl, hE⟩
    exact test_true rfl hE
  | succ d ih =>
    intro a a' l l' n n' c c' w hC hC' hn hn'
    have HC := hid hC
    have HD := hid hC'
    have HN := hid hn
    have HN' := hid hn'
    have hl := hC.len
    have hl' := hC'.len
    have HIH := hid ih
    rw [hn] at hl
    rw [hn'] at hl'
    clear hC hC' ih hn hn'
    by_cases hnn : n = n'
    · subst hnn
      have hz : ((n : Int) == (n : Int)) = true := by simp
      go_enter Tryd.func22, Tryd.ntmps22
      go_upto_region 4 with fail
      go_loopw [5] (fun q wr => ∃ k : Nat, q = .int .i64 k ∧ k ≤ n ∧ Hid (Ext [] w wr ∧ ∀ i, i < k → cAt l i = cAt l' i)) (fun q _ => (n - (intOf q)).toNat)
      case atStart => exact ⟨0, rfl, by omega, hid ⟨Ext.refl _ _, fun i hi => by omega⟩⟩
      case round =>
        obtain ⟨k, rfl, hk, hR⟩ := hrel
        have HE := hid hR.out.1
        have HS := hid hR.out.2
        clear hR
        by_cases hlt : k < n
        · obtain ⟨d1, b, o, hd, rfl, hat⟩ := (HC.out.keep0 HE.out).at_ (by rw [HN.out]; omega)
          obtain rfl : d1 = d := by omega
          obtain ⟨d2, b', o', hd', rfl, hat'⟩ := (HD.out.keep0 HE.out).at_ (by rw [HN'.out]; omega)
          obtain rfl : d2 = d1 := by omega
          obtain ⟨ba, bc, hcl, hbx⟩ := hat k (by rw [HN.out]; omega)
          obtain ⟨ba', bc', hcl', hbx'⟩ := hat' k (by rw [HN'.out]; omega)
          have x0 := hcl.c0
          have x1 := hcl.c1
          have x2 := hcl.c2
          have x3 := hcl.c3
          have y0 := hcl'.c0
          have y1 := hcl'.c1
          have y2 := hcl'.c2
          have y3 := hcl'.c3
          have hkn : (k : Int) < n := by omega
          have K := hid (fun v hv => HIH.out ba ba' (cAt l k).box (cAt l' k).box _ _ bc bc' v (hbx.keep0 hv) (hbx'.keep0 hv) rfl rfl)
          have HNE : Hid (cAt l k ≠ cAt l' k → l ≠ l') := fun h e => h (by rw [e])
          have HYE : Hid ((cAt l k).n = (cAt l' k).n → (cAt l k).s = (cAt l' k).s → (cAt l k).t = (cAt l' k).t → (cAt l k).box = (cAt l' k).box → ∀ i, i < k + 1 → cAt l i = cAt l' i) := fun h1 h2 h3 h4 i hi => by
            rcases (by omega : i < k ∨ i = k) with h | rfl
            · exact HS.out i h
            · exact Cl.ext4 h1 h2 h3 h4
          have HN1 : Hid ((cAt l k).n ≠ (cAt l' k).n → l ≠ l') := fun h => HNE.out (fun e => h (by rw [e]))
          have HN2 : Hid ((cAt l k).s ≠ (cAt l' k).s → l ≠ l') := fun h => HNE.out (fun e => h (by rw [e]))
          have HN3 : Hid ((cAt l k).t ≠ (cAt l' k).t → l ≠ l') := fun h => HNE.out (fun e => h (by rw [e]))
          have HN4 : Hid ((cAt l k).box ≠ (cAt l' k).box → l ≠ l') := fun h => HNE.out (fun e => h (by rw [e]))
          clear hat hat' hcl hcl' hbx hbx' hd hd' hk HNE HS
          generalize (cAt l k).box = xb at *
          generalize (cAt l k).n = xn at *
          generalize (cAt l k).s = xs at *
          generalize (cAt l k).t = xt at *
          generalize (cAt l' k).box = yb at *
          generalize (cAt l' k).n = yn at *
          generalize (cAt l' k).s = ys at *
          generalize (cAt l' k).t = yt at *
          generalize hxl : xb.length = xl at *
          generalize hyl : yb.length = yl at *
          have HXL := hid hxl
          have HYL := hid hyl
          clear hxl hyl
          by_cases e1 : xn = yn
          · subst e1
            have b1 : (xn == xn) = true := by simp
            by_cases e2 : xs = ys
            · subst e2
              have b2 : (xs.toList == xs.toList) = true := by simp
              by_cases e3 : xt = yt
              · subst e3
                have b3 : (xt == xt) = true := by simp
                by_cases e4 : xb = yb
                · subst e4
                  have hll : xl = yl := by rw [← HXL.out, HYL.out]
                  subst hll
                  have KY := hid (fun v hv => test_yes (K.out v hv) rfl)
                  have HY := hid (HYE.out rfl rfl rfl rfl)
                  clear K HYE HN1 HN2 HN3 HN4 HXL HYL
                  go_upto_region 6 with fail
                  go_region_held3 (fun u => u.cell? ⟨b, o + k * 4, none⟩ = some (.int .u64 xn) ∧ u.cell? ⟨b, o + k * 4 + 1, none⟩ = some (.string xs) ∧ u.cell? ⟨b, o + k * 4 + 2, none⟩ = some (.int .i64 xt) ∧ u.cell? ⟨b, o + k * 4 + 3, none⟩ = some (.slice ba xl bc) ∧ u.cell? ⟨b', o' + k * 4, none⟩ = some (.int .u64 xn) ∧ u.cell? ⟨b', o' + k * 4 + 1, none⟩ = some (.string xs) ∧ u.cell? ⟨b', o' + k * 4 + 2, none⟩ = some (.int .i64 xt) ∧ u.cell? ⟨b', o' + k * 4 + 3, none⟩ = some (.slice ba' xl bc'))
                    (first | exact ⟨hE1.cell ((Ext.drew [] _).cell x0 (by simp)) (by simp), hE1.cell ((Ext.drew [] _).cell x1 (by simp)) (by simp), hE1.cell ((Ext.drew [] _).cell x2 (by simp)) (by simp), hE1.cell ((Ext.drew [] _).cell x3 (by simp)) (by simp), hE1.cell ((Ext.drew [] _).cell y0 (by simp)) (by simp), hE1.cell ((Ext.drew [] _).cell y1 (by simp)) (by simp), hE1.cell ((Ext.drew [] _).cell y2 (by simp)) (by simp), hE1.cell ((Ext.drew [] _).cell y3 (by simp)) (by simp)⟩ | go_keep)
                    (first | (go_at_call 22; refine (KY.out _ (Ext.drew [] _)).mono ?_; rintro e w1 ⟨rfl, hE1⟩) | fail "no arm")
                  have HE1 := hid ((HE.out.trans (Ext.drew [] wr)).trans hE1)
                  clear hE1
                  go_wp2_with fail
                  go_roundw
                  case rel => exact ⟨k + 1, by go_num, by omega, hid ⟨HE1.out, HY.out⟩⟩
                  case measure => simp [intOf]; omega
                · have KY := hid (fun v hv => test_no (K.out v hv) e4)
                  have HF := hid (HN4.out e4)
                  clear K HYE HN1 HN2 HN3 HN4 HXL HYL e4
                  go_upto_region 6 with fail
                  go_region_held3 (fun u => u.cell? ⟨b, o + k * 4, none⟩ = some (.int .u64 xn) ∧ u.cell? ⟨b, o + k * 4 + 1, none⟩ = some (.string xs) ∧ u.cell? ⟨b, o + k * 4 + 2, none⟩ = some (.int .i64 xt) ∧ u.cell? ⟨b, o + k * 4 + 3, none⟩ = some (.slice ba xl bc) ∧ u.cell? ⟨b', o' + k * 4, none⟩ = some (.int .u64 xn) ∧ u.cell? ⟨b', o' + k * 4 + 1, none⟩ = some (.string xs) ∧ u.cell? ⟨b', o' + k * 4 + 2, none⟩ = some (.int .i64 xt) ∧ u.cell? ⟨b', o' + k * 4 + 3, none⟩ = some (.slice ba' yl bc'))
                    (first | exact ⟨hE1.cell ((Ext.drew [] _).cell x0 (by simp)) (by simp), hE1.cell ((Ext.drew [] _).cell x1 (by simp)) (by simp), hE1.cell ((Ext.drew [] _).cell x2 (by simp)) (by simp), hE1.cell ((Ext.drew [] _).cell x3 (by simp)) (by simp), hE1.cell ((Ext.drew [] _).cell y0 (by simp)) (by simp), hE1.cell ((Ext.drew [] _).cell y1 (by simp)) (by simp), hE1.cell ((Ext.drew [] _).cell y2 (by simp)) (by simp), hE1.cell ((Ext.drew [] _).cell y3 (by simp)) (by simp)⟩ | go_keep)
                    (first | (go_at_call 22; refine (KY.out _ (Ext.drew [] _)).mono ?_; rintro e w1 ⟨rfl, hE1⟩) | fail "no arm")
                  have HE1 := hid ((HE.out.trans (Ext.drew [] wr)).trans hE1)
                  clear hE1
                  go_wp2_with fail
                  go_ret
                  exact test_false HF.out HE1.out
              · have HF := hid (HN3.out e3)
                have b1' : (xn != xn) = false := by simp
                have b2' : (xs.toList != xs.toList) = false := by simp
                have b3 : (xt != yt) = true := by simpa using e3
                have q9 : decide ((k : Int) < n) = true := decide_eq_true hkn
                clear b1 b2
                clear HN1 HN2 HN3 HN4 HYE K e3 HXL HYL
                go_upto_region 6 with fail
                go_quiet (fail)
                go_wp2_with fail
                go_ret
                exact test_false HF.out (HE.out.trans (Ext.drewN [] _ _))
            · have HF := hid (HN2.out e2)
              have b1' : (xn != xn) = false := by simp
              have b2 : (!(xs.toList == ys.toList)) = true := by rw [str_ne e2]; rfl
              have q9 : decide ((k : Int) < n) = true := decide_eq_true hkn
              clear b1
              clear HN1 HN2 HN3 HN4 HYE K e2 HXL HYL
              go_upto_region 6 with fail
              go_quiet (fail)
              go_wp2_with fail
              go_ret
              exact test_false HF.out (HE.out.trans (Ext.drewN [] _ _))
          · have HF := hid (HN1.out e1)
            have b1 : (xn != yn) = true := by simpa using e1
            have q9 : decide ((k : Int) < n) = true := decide_eq_true hkn
            clear HN1 HN2 HN3 HN4 HYE K e1 HXL HYL
            go_upto_region 6 with fail
            go_quiet (fail)
            go_wp2_with fail
            go_ret
            exact test_false HF.out (HE.out.trans (Ext.drewN [] _ _))
        · have hk2 : k = n := by omega
          have HY : Hid (l = l') := cells_ext (by rw [HN.out, HN'.out]) (fun i hi => by
            have h9 := HN.out
            exact HS.out i (by omega))
          have hkn : ¬ ((k : Int) < n) := by omega
          clear hk2 hlt hk HS
          go_wp2_with fail
          go_ret
          exact test_true HY.out HE.out
    · have HF : Hid (l ≠ l') := fun e => hnn (by rw [← HN.out, ← HN'.out, e])
      have hz : ((n : Int) == (n' : Int)) = false := by simp; omega
      clear hnn
      go_enter Tryd.func22, Tryd.ntmps22
      go_wp2_with fail
      go_ret
      exact test_false HF.out (Ext.refl _ _)

end Go.Proofs.YtpjcbpgfbhlioaaDoor
