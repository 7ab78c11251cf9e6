/-
  The reference's compare; no statement is proved here.
-/
import Derived.Test.YtpjcbpgfbhlioaaDoorREqB
namespace Go.Proofs.YtpjcbpgfbhlioaaDoor
open Go.RowKit

set_option maxRecDepth 100000 in
set_option maxHeartbeats 8000000 in
/-- A type without parts. -/
theorem rleaf_any (ts : List Ty) (ta : Option Addr) (tn tc : Nat) (htn : ts.length = tn) (hS : Sound ts) (d : Nat) (w : World) (hT : Tab w ta ts) (HR : RqAt ts ta tn tc d w) (t : Nat) (ht : t < tn) (hps : parts (tyAt ts t) = []) (b0 o0 : Nat) (l : List Cl) (c : Nat) (b1 o1 : Nat) (l' : List Cl) (c' : Nat) (ba ba' : Option Addr) (bc bc' : Nat) (hx : ClAt w b0 o0 (cAt l 0) ba bc) (hy : ClAt w b1 o1 (cAt l' 0) ba' bc') (hbx : Bxd ts d w (cAt l 0) ba) (hby : Bxd ts d w (cAt l' 0) ba') :
    Calls Tryd.prog 30 #[.slice ta tn tc, .int .i64 t, .slice (some ⟨b0, o0, none⟩) 1 c, .slice (some ⟨b1, o1, none⟩) 1 c'] w (SayPost w (paV (eqL (eqC ts (eqV ts d)) [(tyAt ts t).kind] l l'))) := by
  have hF := (hS.2.1 t (by omega)).1
  obtain ⟨b, o, rfl, hat⟩ := hT.addr (by omega)
  obtain ⟨fa, fc, hty⟩ := hat t (by omega)
  have K2 := parts_any (tyAt ts t) fa fc w hty.f (fun h9 => by have := hF.2.2.2.2.1 h9; omega)
  unfold tyVal at K2
  rw [hps] at K2
  have HTY := hid hty
  obtain ⟨c0, c1, c2, c3, c4, _⟩ := hty
  have hn0 := hx.n0
  have hm0 := hy.n0
  have HX := hid hx
  have HY := hid hy
  have KN1 := nan_any (cAt l 0).n hn0
  have KN2 := nan_any (cAt l' 0).n hm0
  obtain ⟨f1, f2, f3, f4, f5⟩ := feq_cases hn0 hm0
  have s1 := shl_zero hn0
  have s2 := shl_zero hm0
  have HFe := hid (And.intro f1 (And.intro f2 (And.intro f3 (And.intro f4 f5))))
  have HB : Hid (∀ q : Nat, (cAt l 0).t = (q : Int) + 1 → bad ts q = 0 ∧ q < tn) := fun q hq => by
    have hb := (hbx.ok (by omega)).1
    have h2 := boxable_bad hS hb
    rw [show (cAt l 0).t - 1 = (q : Int) by omega] at h2
    exact ⟨h2, by have := hb.2.1; omega⟩
  have KC : Hid (∀ q : Nat, q < tn → ∀ u, Ext [] w u → Calls Tryd.prog 36 #[.slice (some ⟨b, o, none⟩) tn tc, .int .i64 q] u (SayPost u (.bool (cmpT ts q)))) := fun q hq u hu => comparOf_any ts (some ⟨b, o, none⟩) tn tc htn hS.2.1 (q + 1) q (by omega) hq u (hT.keep0 hu)
  have KR : Hid (∀ q : Nat, q < tn → (cAt l 0).t = (q : Int) + 1 → (cAt l' 0).t = (q : Int) + 1 → ∀ u, Ext [] w u → Calls Tryd.prog 30 #[.slice (some ⟨b, o, none⟩) tn tc, .int .i64 q, .slice ba (cAt l 0).box.length bc, .slice ba' (cAt l' 0).box.length bc'] u (SayPost u (paV (eqV ts d q (cAt l 0).box (cAt l' 0).box)))) := fun q hq e1 e2 u hu => by
    have k1 := (hbx.ok (by omega)).2
    have k2 := (hby.ok (by omega)).2
    rw [show (cAt l 0).t - 1 = (q : Int) by omega] at k1
    rw [show (cAt l' 0).t - 1 = (q : Int) by omega] at k2
    exact HR q ba _ _ bc ba' _ _ bc' u hu hq (hbx.cs.keep0 hu) rfl hx.cap k1 (hby.cs.keep0 hu) rfl hy.cap k2
  have ht0 := hx.t0
  have HPos : Hid ((cAt l 0).t ≠ 0 → 1 ≤ (cAt l 0).t) := fun h => (hbx.ok h).1.1
  rw [eqL_one1]
  have HC3 : Hid ((tyAt ts t).kind = 3 → eqC ts (eqV ts d) (tyAt ts t).kind (cAt l 0) (cAt l' 0) = (Op.floatEq .f64 (cAt l 0).n.toNat (cAt l' 0).n.toNat, 0)) := fun h => by unfold eqC; rw [if_pos h]
  have HC4 : Hid ((tyAt ts t).kind = 4 → eqC ts (eqV ts d) (tyAt ts t).kind (cAt l 0) (cAt l' 0) = (decide ((cAt l 0).s = (cAt l' 0).s), 0)) := fun h => by unfold eqC; rw [if_neg (by omega), if_pos h]
  have HC7 : Hid ((tyAt ts t).kind = 7 → eqC ts (eqV ts d) (tyAt ts t).kind (cAt l 0) (cAt l' 0) = if (cAt l 0).t ≠ (cAt l' 0).t then (false, 0) else if (cAt l 0).t = 0 then (true, 0) else if cmpT ts ((cAt l 0).t - 1) = false then (false, 11) else eqV ts d ((cAt l 0).t - 1) (cAt l 0).box (cAt l' 0).box) := fun h => by unfold eqC; rw [if_neg (by omega), if_neg (by omega), if_pos h]
  have HC0 : Hid ((tyAt ts t).kind ≠ 3 → (tyAt ts t).kind ≠ 4 → (tyAt ts t).kind ≠ 7 → eqC ts (eqV ts d) (tyAt ts t).kind (cAt l 0) (cAt l' 0) = (decide ((cAt l 0).n = (cAt l' 0).n), 0)) := fun h1 h2 h3 => by unfold eqC; rw [if_neg h1, if_neg h2, if_neg h3]
  have htn2 : (t : Int) < tn := by omega
  clear hat hF hS hT HR hx hy hbx hby hps f1 f2 f3 f4 f5
  generalize eqC ts (eqV ts d) (tyAt ts t).kind (cAt l 0) (cAt l' 0) = res at *
  unfold paV
  go_enter Tryd.func30, Tryd.ntmps30
  go_upto_region 3 with (first | (go_at_call 20; refine K2.mono ?_; clear K2; rintro e w2 ⟨ia, ic, rfl, hIo, hE2⟩; have HE2 := hid hE2; clear hE2 hIo) | fail "no arm")
  clear c0 c1 c2 c3 c4
  have z0 := (HTY.out.keep0 HE2.out).c0
  have x0 := (HX.out.keep0 HE2.out).c0
  have x1 := (HX.out.keep0 HE2.out).c1
  have x2 := (HX.out.keep0 HE2.out).c2
  have x3 := (HX.out.keep0 HE2.out).c3
  have y0 := (HY.out.keep0 HE2.out).c0
  have y1 := (HY.out.keep0 HE2.out).c1
  have y2 := (HY.out.keep0 HE2.out).c2
  have y3 := (HY.out.keep0 HE2.out).c3
  clear HTY HX HY
  generalize (tyAt ts t).kind = kd at *
  generalize (cAt l 0).box = xb at *
  generalize (cAt l 0).n = xn at *
  generalize (cAt l 0).s = xs at *
  generalize (cAt l 0).t = xt at *
  generalize (cAt l' 0).box = yb at *
  generalize (cAt l' 0).n = yn at *
  generalize (cAt l' 0).s = ys at *
  generalize (cAt l' 0).t = yt at *
  have hz0 : ¬ ((0 : Int) < 0) := by omega
  go_loopw [2, 3, 11] (fun lv lv' q wr => ∃ k : Nat, lv = .slice (some ⟨b0, o0, none⟩) 1 c ∧ lv' = .slice (some ⟨b1, o1, none⟩) 1 c' ∧ q = .int .i64 k ∧ k ≤ 0 ∧ w2 = wr) (fun _ _ _ _ => 0)
  case atStart => exact ⟨0, rfl, rfl, rfl, Nat.le_refl _, rfl⟩
  case round =>
    obtain ⟨k, rfl, rfl, rfl, hk0, rfl⟩ := hrel
    obtain rfl : k = 0 := by omega
    have HA : Hid (Ext [] w ((w2.alloc (.cells #[.int .u64 xn, .string xs, .int .i64 xt, .slice ba xb.length bc] 49)).alloc (.cells #[.int .u64 yn, .string ys, .int .i64 yt, .slice ba' yb.length bc'] 49))) := (HE2.out.trans (Ext.alloc _ _ _)).trans (Ext.alloc _ _ _)
    have HYa : Hid (∀ g v, w2.cell? g = some v → (w2.alloc (.cells #[.int .u64 xn, .string xs, .int .i64 xt, .slice ba xb.length bc] 49)).cell? g = some v) := fun g v h => (Ext.alloc [] w2 _).cell h (by simp)
    have HZa : Hid (∀ g v, w2.cell? g = some v → ((w2.alloc (.cells #[.int .u64 xn, .string xs, .int .i64 xt, .slice ba xb.length bc] 49)).alloc (.cells #[.int .u64 yn, .string ys, .int .i64 yt, .slice ba' yb.length bc'] 49)).cell? g = some v) := fun g v h => ((Ext.alloc [] w2 _).trans (Ext.alloc _ _ _)).cell h (by simp)
    have ya0 := HYa.out _ _ y0
    have ya1 := HYa.out _ _ y1
    have ya2 := HYa.out _ _ y2
    have ya3 := HYa.out _ _ y3
    have za0 := HZa.out _ _ z0
    clear HYa HZa y0 y1 y2 y3 z0
    generalize hxl : xb.length = xl at *
    generalize hyl : yb.length = yl at *
    clear hxl hyl
    by_cases k3 : kd = 3
    · have hr := HC3.out k3
      subst k3
      have HRr := hid hr
      clear HC3 HC4 HC7 HC0 KC KR HB HPos hr
      by_cases n1 : rungOf xn.toNat ≤ infR
      · rw [decide_eq_false (fun h => h n1)] at KN1
        by_cases n2 : rungOf yn.toNat ≤ infR
        · rw [decide_eq_false (fun h => h n2)] at KN2
          by_cases e1 : xn = yn
          · have hq := HFe.out.2.2.1 n1 n2 e1
            have b1 : (xn == yn) = true := by simpa using e1
            rw [hq] at HRr
            have hrr := HRr.out
            subst hrr
            clear HFe n1 n2 e1 hq s1 s2
            go_wp2_with (first | (go_at_call 45; refine met (KN1 _) ?_) | (go_at_call 45; refine met (KN2 _) ?_) | fail "no arm")
            go_ret2
            exact ⟨rfl, HA.out⟩
          · have b1 : (xn == yn) = false := by simpa using e1
            by_cases z1 : rungOf xn.toNat = 0
            · rw [decide_eq_true z1] at s1
              by_cases z2 : rungOf yn.toNat = 0
              · rw [decide_eq_true z2] at s2
                have hq := HFe.out.2.2.2.1 z1 z2
                rw [hq] at HRr
                have hrr := HRr.out
                subst hrr
                clear HFe n1 n2 e1 hq z1 z2
                go_wp2_with (first | (go_at_call 45; refine met (KN1 _) ?_) | (go_at_call 45; refine met (KN2 _) ?_) | fail "no arm")
                go_ret2
                exact ⟨rfl, HA.out⟩
              · rw [decide_eq_false z2] at s2
                have hq := HFe.out.2.2.2.2 e1 (fun h => z2 h.2)
                rw [hq] at HRr
                have hrr := HRr.out
                subst hrr
                clear HFe n1 n2 e1 hq z1 z2
                go_wp2_with (first | (go_at_call 45; refine met (KN1 _) ?_) | (go_at_call 45; refine met (KN2 _) ?_) | fail "no arm")
                go_ret2
                exact ⟨rfl, HA.out⟩
            · rw [decide_eq_false z1] at s1
              have hq := HFe.out.2.2.2.2 e1 (fun h => z1 h.1)
              rw [hq] at HRr
              have hrr := HRr.out
              subst hrr
              clear HFe n1 n2 e1 hq z1 s2
              go_wp2_with (first | (go_at_call 45; refine met (KN1 _) ?_) | (go_at_call 45; refine met (KN2 _) ?_) | fail "no arm")
              go_ret2
              exact ⟨rfl, HA.out⟩
        · rw [decide_eq_true n2] at KN2
          have hq := HFe.out.2.1 n2
          rw [hq] at HRr
          have hrr := HRr.out
          subst hrr
          clear HFe n1 n2 hq s1 s2
          go_wp2_with (first | (go_at_call 45; refine met (KN1 _) ?_) | (go_at_call 45; refine met (KN2 _) ?_) | fail "no arm")
          go_ret2
          exact ⟨rfl, HA.out⟩
      · rw [decide_eq_true n1] at KN1
        have hq := HFe.out.1 n1
        rw [hq] at HRr
        have hrr := HRr.out
        subst hrr
        clear HFe n1 hq s1 s2 KN2
        go_wp2_with (first | (go_at_call 45; refine met (KN1 _) ?_) | fail "no arm")
        go_ret2
        exact ⟨rfl, HA.out⟩
    · have b3 : (kd == 3) = false := by simpa using k3
      clear HC3 KN1 KN2 HFe s1 s2
      by_cases k4 : kd = 4
      · have hr := HC4.out k4
        subst k4
        clear HC4 HC7 HC0 KC KR HB HPos k3
        by_cases hs : xs = ys
        · have hs2 : (xs.toList == ys.toList) = true := by simp [hs]
          rw [decide_eq_true hs] at hr
          subst hr
          clear hs
          go_wp2_with fail
          go_ret2
          exact ⟨rfl, HA.out⟩
        · have hs2 : (xs.toList == ys.toList) = false := str_ne hs
          rw [decide_eq_false hs] at hr
          subst hr
          clear hs
          go_wp2_with fail
          go_ret2
          exact ⟨rfl, HA.out⟩
      · have b4 : (kd == 4) = false := by simpa using k4
        by_cases k7 : kd = 7
        · have hr := HC7.out k7
          subst k7
          clear HC4 HC7 HC0 k3 k4
          by_cases h1 : xt = yt
          · rw [if_neg (by simp [h1])] at hr
            subst h1
            by_cases h0 : xt = 0
            · rw [if_pos h0] at hr
              subst hr
              subst h0
              clear KC KR HB HPos
              go_wp2_with fail
              go_ret2
              exact ⟨rfl, HA.out⟩
            · rw [if_neg h0] at hr
              have hpos := HPos.out h0
              obtain ⟨q, hq⟩ : ∃ q : Nat, xt = (q : Int) + 1 := ⟨(xt - 1).toNat, by omega⟩
              obtain ⟨_, hqn⟩ := HB.out q hq
              rw [show xt - 1 = (q : Int) by omega] at hr
              have KC1 := hid (KC.out q hqn _ HA.out)
              have KR1 := hid (KR.out q hqn hq hq)
              have HRr := hid hr
              have HZ : Hid (∀ u, Ext [] ((w2.alloc (.cells #[.int .u64 xn, .string xs, .int .i64 xt, .slice ba xl bc] 49)).alloc (.cells #[.int .u64 yn, .string ys, .int .i64 xt, .slice ba' yl bc'] 49)) u → u.cell? ⟨w2.heap.size, 2, none⟩ = some (.int .i64 xt) ∧ u.cell? ⟨w2.heap.size, 3, none⟩ = some (.slice ba xl bc) ∧ u.cell? ⟨w2.heap.size + 1, 3, none⟩ = some (.slice ba' yl bc')) := fun u hu => by
                refine ⟨hu.cell ?_ (by simp), hu.cell ?_ (by simp), hu.cell ?_ (by simp)⟩
                · rw [cell_of_row _ _ _ _ _ _ (heap_alloc2_old _ _ _)]; rfl
                · rw [cell_of_row _ _ _ _ _ _ (heap_alloc2_old _ _ _)]; rfl
                · rw [cell_of_row _ _ _ _ _ _ (heap_alloc2_new _ _ _)]; rfl
              have wq : IntKind.wrap .i64 (xt - 1) = q := by rw [IntKind.wrap_i64]; omega
              have bx : (xt == xt) = true := by simp
              have bz : (xt == 0) = false := by simpa using h0
              clear KC KR HB HPos h0 hpos hr hq hqn ht0
              generalize eqV ts d q xb yb = v at *
              generalize cmpT ts q = cm at *
              cases cm
              · rw [if_pos rfl] at HRr
                have hrr := HRr.out
                subst hrr
                clear KR1 HZ
                go_wp2_with (first | (go_at_call 36; refine KC1.out.mono ?_; clear KC1; rintro e w3 ⟨rfl, hE3⟩; replace hE3 := hid hE3) | fail "no arm")
                go_ret2
                exact ⟨rfl, HA.out.trans hE3.out⟩
              · rw [if_neg (by simp)] at HRr
                have hrr := HRr.out
                subst hrr
                obtain ⟨v1, v2⟩ := res
                unfold paV at KR1
                simp only at KR1
                go_wp2_with (first | (go_at_call 36; refine KC1.out.mono ?_; clear KC1; rintro e w3 ⟨rfl, hE3⟩; obtain ⟨g2, g3, g4⟩ := HZ.out w3 hE3; have KR2 := KR1.out w3 (HA.out.trans hE3); replace hE3 := hid hE3) | (go_at_call 30; refine KR2.mono ?_; clear KR2; rintro e w4 ⟨rfl, hE4⟩; replace hE4 := hid hE4) | fail "no arm")
                go_ret2
                exact ⟨rfl, (HA.out.trans hE3.out).trans hE4.out⟩
          · rw [if_pos h1] at hr
            subst hr
            have b1 : (xt == yt) = false := by simpa using h1
            clear h1 KC KR HB HPos
            go_wp2_with fail
            go_ret2
            exact ⟨rfl, HA.out⟩
        · have b7 : (kd == 7) = false := by simpa using k7
          have hr := HC0.out k3 k4 k7
          clear HC4 HC7 HC0 KC KR HB HPos k3 k4 k7
          by_cases hs : xn = yn
          · have hs2 : (xn == yn) = true := by simpa using hs
            rw [decide_eq_true hs] at hr
            subst hr
            clear hs
            go_wp2_with fail
            go_ret2
            exact ⟨rfl, HA.out⟩
          · have hs2 : (xn == yn) = false := by simpa using hs
            rw [decide_eq_false hs] at hr
            subst hr
            clear hs
            go_wp2_with fail
            go_ret2
            exact ⟨rfl, HA.out⟩

end Go.Proofs.YtpjcbpgfbhlioaaDoor
