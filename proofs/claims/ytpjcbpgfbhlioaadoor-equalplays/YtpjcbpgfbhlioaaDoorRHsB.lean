/-
  The reference's Fold of a type without parts; no statement is proved here.
-/
import Derived.Test.YtpjcbpgfbhlioaaDoorRHsA
namespace Go.Proofs.YtpjcbpgfbhlioaaDoor
open Go.RowKit

theorem byte_word (b : ByteArray) (k : Nat) (hlt : k < b.size) : b.data.getD k 0 = b[k]'hlt := by
  show b.data.getD k 0 = b.data[k]'hlt
  have h2 : b.data[k]? = some (b.data[k]'hlt) := Array.getElem?_eq_getElem hlt
  rw [Array.getD_eq_getD_getElem?, h2]; rfl

theorem byte_wrap (x : Nat) (h : x < 2 ^ 8) : IntKind.u64.wrap (wrap64 (wrap64 (x : Int) + 1)) = (x : Int) + 1 := by
  have h1 : wrap64 (x : Int) = x := by unfold wrap64; omega
  have h2 : wrap64 ((x : Int) + 1) = (x : Int) + 1 := by unfold wrap64; omega
  rw [h1, h2, IntKind.wrap_u64]
  omega

set_option maxRecDepth 100000 in
set_option maxHeartbeats 8000000 in
theorem rfleaf_any (ts : List Ty) (ta : Option Addr) (tn tc : Nat) (htn : ts.length = tn) (hS : Sound ts) (d : Nat) (salt : Int) (w : World) (hT : Tab w ta ts) (HR : RfAt ts ta tn tc d salt w) (t : Nat) (ht : t < tn) (hps : parts (tyAt ts t) = []) (b0 o0 : Nat) (l : List Cl) (c : Nat) (ba : Option Addr) (bc : Nat) (hx : ClAt w b0 o0 (cAt l 0) ba bc) (hbx : Bxd ts d w (cAt l 0) ba) (s : Int) (hs : U s) :
    Calls Tryd.prog 32 #[.slice ta tn tc, .int .i64 t, .slice (some ⟨b0, o0, none⟩) 1 c, .int .u64 s, .int .u64 salt] w (SayPost w (huV (fo (hsC ts (hsV ts salt d) salt (tyAt ts t).kind (cAt l 0) s)))) := by
  have hF := (hS.2.1 t (by omega)).1
  obtain ⟨b, o, rfl, hat⟩ := hT.addr (by omega)
  obtain ⟨fa, fc, hty⟩ := hat t (by omega)
  have K2 := parts_any (tyAt ts t) fa fc w hty.f (fun h9 => by have := hF.2.2.2.2.1 h9; omega)
  unfold tyVal at K2
  rw [hps] at K2
  have HTY := hid hty
  obtain ⟨c0, c1, c2, c3, c4, _⟩ := hty
  have hn0 := hx.n0
  have ht0 := hx.t0
  have hs0 := hx.s0
  have HX := hid hx
  have KN1 := nan_any (cAt l 0).n hn0
  have KM := rmix_any
  have s1 := shl_zero hn0
  have HB : Hid (∀ q : Nat, (cAt l 0).t = (q : Int) + 1 → q < tn) := fun q hq => by
    have hb := (hbx.ok (by omega)).1
    have := hb.2.1; omega
  have KC : Hid (∀ q : Nat, q < tn → ∀ u, Ext [] w u → Calls Tryd.prog 36 #[.slice (some ⟨b, o, none⟩) tn tc, .int .i64 q] u (SayPost u (.bool (cmpT ts q)))) := fun q hq u hu => comparOf_any ts (some ⟨b, o, none⟩) tn tc htn hS.2.1 (q + 1) q (by omega) hq u (hT.keep0 hu)
  have KR : Hid (∀ q : Nat, q < tn → (cAt l 0).t = (q : Int) + 1 → ∀ u, Ext [] w u → ∀ s1, U s1 → Calls Tryd.prog 32 #[.slice (some ⟨b, o, none⟩) tn tc, .int .i64 q, .slice ba (cAt l 0).box.length bc, .int .u64 s1, .int .u64 salt] u (SayPost u (huV (fo (hsV ts salt d q (cAt l 0).box s1))))) := fun q hq e1 u hu s1 hs1 => by
    have k1 := (hbx.ok (by omega)).2
    rw [show (cAt l 0).t - 1 = (q : Int) by omega] at k1
    exact HR q ba _ _ bc s1 u hu hs1 hq (hbx.cs.keep0 hu) rfl hx.cap k1
  have HPos : Hid ((cAt l 0).t ≠ 0 → 1 ≤ (cAt l 0).t) := fun h => (hbx.ok h).1.1
  have HC3 : Hid ((tyAt ts t).kind = 3 → fo (hsC ts (hsV ts salt d) salt (tyAt ts t).kind (cAt l 0) s) = (foldI s (fltH salt (cAt l 0).n), 0)) := fun h => by unfold hsC; rw [if_pos h]; rfl
  have HC4 : Hid ((tyAt ts t).kind = 4 → fo (hsC ts (hsV ts salt d) salt (tyAt ts t).kind (cAt l 0) s) = (foldI (txtH s (cAt l 0).s (cAt l 0).s.size) (cAt l 0).s.size, 0)) := fun h => by unfold hsC; rw [if_neg (by omega), if_pos h]; rfl
  have HC7 : Hid ((tyAt ts t).kind = 7 → fo (hsC ts (hsV ts salt d) salt (tyAt ts t).kind (cAt l 0) s) = fo (if (cAt l 0).t = 0 then some (foldI s (cAt l 0).t) else if cmpT ts ((cAt l 0).t - 1) = false then none else hsV ts salt d ((cAt l 0).t - 1) (cAt l 0).box (foldI s (cAt l 0).t))) := fun h => by unfold hsC; rw [if_neg (by omega), if_neg (by omega), if_pos h]
  have HC0 : Hid ((tyAt ts t).kind ≠ 3 → (tyAt ts t).kind ≠ 4 → (tyAt ts t).kind ≠ 7 → fo (hsC ts (hsV ts salt d) salt (tyAt ts t).kind (cAt l 0) s) = (foldI s (cAt l 0).n, 0)) := fun h1 h2 h3 => by unfold hsC; rw [if_neg h1, if_neg h2, if_neg h3]; rfl
  have htn2 : (t : Int) < tn := by omega
  have HS0 := hid hs
  clear hat hF hS hT HR hx hbx hps hs
  generalize fo (hsC ts (hsV ts salt d) salt (tyAt ts t).kind (cAt l 0) s) = res at *
  unfold huV
  go_enter Tryd.func32, Tryd.ntmps32
  go_upto_region 3 with (first | (go_at_call 20; refine K2.mono ?_; clear K2; rintro e w2 ⟨ia, ic, rfl, hIo, hE2⟩; have HE2 := hid hE2; clear hE2 hIo) | fail "no arm")
  clear c0 c1 c2 c3 c4
  have z0 := (HTY.out.keep0 HE2.out).c0
  have x0 := (HX.out.keep0 HE2.out).c0
  have x1 := (HX.out.keep0 HE2.out).c1
  have x2 := (HX.out.keep0 HE2.out).c2
  have x3 := (HX.out.keep0 HE2.out).c3
  clear HTY HX
  generalize (tyAt ts t).kind = kd at *
  generalize (cAt l 0).box = xb at *
  generalize (cAt l 0).n = xn at *
  generalize (cAt l 0).s = xs at *
  generalize (cAt l 0).t = xt at *
  have hz0 : ¬ ((0 : Int) < 0) := by omega
  go_loopw [2, 3, 13] (fun lv sv q wr => ∃ k : Nat, lv = .slice (some ⟨b0, o0, none⟩) 1 c ∧ sv = .int .u64 s ∧ q = .int .i64 k ∧ k ≤ 0 ∧ w2 = wr) (fun _ _ _ _ => 0)
  case atStart => exact ⟨0, rfl, rfl, rfl, Nat.le_refl _, rfl⟩
  case round =>
    obtain ⟨k, rfl, rfl, rfl, hk0, rfl⟩ := hrel
    obtain rfl : k = 0 := by omega
    generalize hxl : xb.length = xl at *
    clear hxl
    have HA : Hid (Ext [] w (w2.alloc (.cells #[.int .u64 xn, .string xs, .int .i64 xt, .slice ba xl bc] 49))) := HE2.out.trans (Ext.alloc _ _ _)
    have za0 : (w2.alloc (.cells #[.int .u64 xn, .string xs, .int .i64 xt, .slice ba xl bc] 49)).cell? ⟨b, o + t * 5, none⟩ = some (.int .i64 kd) := (Ext.alloc [] w2 _).cell z0 (by simp)
    have HZ : Hid (∀ u, Ext [] (w2.alloc (.cells #[.int .u64 xn, .string xs, .int .i64 xt, .slice ba xl bc] 49)) u → u.cell? ⟨w2.heap.size, 2, none⟩ = some (.int .i64 xt) ∧ u.cell? ⟨w2.heap.size, 3, none⟩ = some (.slice ba xl bc)) := fun u hu => by
      refine ⟨hu.cell ?_ (by simp), hu.cell ?_ (by simp)⟩
      · rw [cell_of_row _ _ _ _ _ _ (heap_alloc_new _ _)]; rfl
      · rw [cell_of_row _ _ _ _ _ _ (heap_alloc_new _ _)]; rfl
    clear z0
    by_cases k3 : kd = 3
    · have hr := HC3.out k3
      subst k3
      clear HC3 HC4 HC7 HC0 KC KR HB HPos HZ
      unfold fltH at hr
      by_cases n1 : rungOf xn.toNat ≤ infR
      · rw [decide_eq_false (fun h => h n1)] at KN1
        by_cases z1 : rungOf xn.toNat = 0
        · rw [decide_eq_true z1] at s1
          rw [if_pos z1] at hr
          replace hr : res = (mixI s, 0) := by rw [hr]; unfold foldI; rw [xor_zero HS0.out]
          subst hr
          clear n1 z1
          go_wp2_with (first | (go_at_call 45; refine met (KN1 _) ?_) | (go_at_call 11; refine met (KM _ _) ?_) | fail "no arm")
          go_ret2
          exact ⟨rfl, HA.out⟩
        · rw [decide_eq_false z1] at s1
          rw [if_neg z1, if_pos n1] at hr
          replace hr : res = (mixI (bits .xor .u64 s xn), 0) := hr
          subst hr
          clear n1 z1
          go_wp2_with (first | (go_at_call 45; refine met (KN1 _) ?_) | (go_at_call 11; refine met (KM _ _) ?_) | fail "no arm")
          go_ret2
          exact ⟨rfl, HA.out⟩
      · rw [decide_eq_true n1] at KN1
        rw [if_neg (fun h => n1 (by rw [h]; exact Nat.zero_le _)), if_neg n1] at hr
        replace hr : res = (mixI (bits .xor .u64 s salt), 0) := hr
        subst hr
        clear n1 s1
        go_wp2_with (first | (go_at_call 45; refine met (KN1 _) ?_) | (go_at_call 11; refine met (KM _ _) ?_) | fail "no arm")
        go_ret2
        exact ⟨rfl, HA.out⟩
    · have b3 : (kd == 3) = false := by simpa using k3
      clear HC3 KN1 s1
      by_cases k4 : kd = 4
      · have hr := HC4.out k4
        subst k4
        have HRr := hid hr
        clear HC4 HC7 HC0 KC KR HB HPos k3 hr
        have yl1 : (w2.alloc (.cells #[.int .u64 xn, .string xs, .int .i64 xt, .slice ba xl bc] 49)).cell? ⟨w2.heap.size, 1, none⟩ = some (.string xs) := by rw [cell_of_row _ _ _ _ _ _ (heap_alloc_new _ _)]; rfl
        clear HZ
        go_upto_region 22 with fail
        go_loopw [3, 18] (fun sv q wr => ∃ k : Nat, q = .int .i64 k ∧ k ≤ xs.size ∧ (∃ s1, sv = .int .u64 s1 ∧ Hid (s1 = txtH s xs k)) ∧ (w2.alloc (.cells #[.int .u64 xn, .string xs, .int .i64 xt, .slice ba xl bc] 49)) = wr) (fun _ q _ => (xs.size - (intOf q)).toNat)
        case atStart => exact ⟨0, rfl, Nat.zero_le _, ⟨s, rfl, hid rfl⟩, rfl⟩
        case round =>
          obtain ⟨k, rfl, hk, ⟨s1, rfl, hs1⟩, rfl⟩ := hrel
          by_cases hlt : k < xs.size
          · have hkn : (k : Int) < xs.size := by omega
            go_wp2_with (first | (go_at_call 11; refine met (KM _ _) ?_) | fail "no arm")
            go_roundw
            case rel =>
              refine ⟨k + 1, by go_num, by omega, ⟨_, rfl, ?_⟩, trivial⟩
              show _ = foldI (txtH s xs k) (((xs.data.getD k 0).toNat : Int) + 1)
              rw [byte_word xs k hlt, hs1.out]
              unfold foldI
              rw [byte_wrap _ (xs[k]'hlt).toNat_lt]
            case measure => simp [intOf]; omega
          · have hk2 : k = xs.size := by omega
            have wz : IntKind.wrap .u64 (xs.size : Int) = xs.size := by rw [IntKind.wrap_u64]; omega
            have hrr : res = (mixI (bits .xor .u64 s1 xs.size), 0) := by rw [HRr.out, hs1.out, hk2]; rfl
            subst hrr
            clear hk2
            go_wp2_with (first | (go_at_call 11; refine met (KM _ _) ?_) | fail "no arm")
            go_ret2
            exact ⟨rfl, HA.out⟩
      · have b4 : (kd == 4) = false := by simpa using k4
        by_cases k7 : kd = 7
        · have hr := HC7.out k7
          subst k7
          clear HC4 HC7 HC0 k3 k4
          by_cases h0 : xt = 0
          · rw [if_pos h0] at hr
            subst h0
            replace hr : res = (mixI (bits .xor .u64 s 0), 0) := hr
            subst hr
            clear KC KR HB HPos HZ
            go_wp2_with (first | (go_at_call 11; refine met (KM _ _) ?_) | fail "no arm")
            go_ret2
            exact ⟨rfl, HA.out⟩
          · rw [if_neg h0] at hr
            have hpos := HPos.out h0
            obtain ⟨q, hq⟩ : ∃ q : Nat, xt = (q : Int) + 1 := ⟨(xt - 1).toNat, by omega⟩
            have hqn := HB.out q hq
            rw [show xt - 1 = (q : Int) by omega] at hr
            have KC1 := hid (KC.out q hqn _ HA.out)
            have KR1 := hid (fun u hu => KR.out q hqn hq u hu (mixI (bits .xor .u64 s xt)) (mix_U _))
            replace hr : res = fo (if cmpT ts q = false then none else hsV ts salt d q xb (mixI (bits .xor .u64 s xt))) := hr
            have HRr := hid hr
            have wq : IntKind.wrap .i64 (xt - 1) = q := by rw [IntKind.wrap_i64]; omega
            have wt : IntKind.wrap .u64 xt = xt := by rw [IntKind.wrap_u64]; omega
            have bz : (xt == 0) = false := by simpa using h0
            clear KC KR HB HPos h0 hpos hr hq hqn ht0
            generalize hsV ts salt d q xb (mixI (bits .xor .u64 s xt)) = v at *
            generalize cmpT ts q = cm at *
            cases cm
            · rw [if_pos rfl] at HRr
              have hrr : res = (0, 11) := HRr.out
              subst hrr
              clear KR1
              go_wp2_with (first | (go_at_call 11; refine met (KM _ _) ?_) | (go_at_call 36; refine KC1.out.mono ?_; clear KC1; rintro e w3 ⟨rfl, hE3⟩; replace hE3 := hid hE3) | fail "no arm")
              go_ret2
              exact ⟨rfl, HA.out.trans hE3.out⟩
            · rw [if_neg (by simp)] at HRr
              have hrr := HRr.out
              rw [← hrr] at KR1
              obtain ⟨v1, v2⟩ := res
              unfold huV at KR1
              simp only at KR1
              clear HRr hrr
              go_wp2_with (first | (go_at_call 11; refine met (KM _ _) ?_) | (go_at_call 36; refine KC1.out.mono ?_; clear KC1; rintro e w3 ⟨rfl, hE3⟩; obtain ⟨g2, g3⟩ := HZ.out w3 hE3; have KR2 := KR1.out w3 (HA.out.trans hE3); replace hE3 := hid hE3) | (go_at_call 32; refine KR2.mono ?_; clear KR2; rintro e w4 ⟨rfl, hE4⟩; replace hE4 := hid hE4) | fail "no arm")
              go_ret2
              exact ⟨rfl, (HA.out.trans hE3.out).trans hE4.out⟩
        · have b7 : (kd == 7) = false := by simpa using k7
          have hr : res = (mixI (bits .xor .u64 s xn), 0) := HC0.out k3 k4 k7
          subst hr
          clear HC4 HC7 HC0 KC KR HB HPos k3 k4 k7 HZ
          go_wp2_with (first | (go_at_call 11; refine met (KM _ _) ?_) | fail "no arm")
          go_ret2
          exact ⟨rfl, HA.out⟩

end Go.Proofs.YtpjcbpgfbhlioaaDoor
