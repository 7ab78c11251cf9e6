/-
  The reference's Place and Part; no statement is proved here.
-/
import Derived.Test.YtfabhhmeanpmhaaDoorRChk
import Derived.Test.YtfabhhmeanpmhaaDoorPart
namespace Go.Proofs.YtfabhhmeanpmhaaDoor
open Go.RowKit

def LPost3 (w : World) (x y z : Int) (e : Ending) (w' : World) : Prop := e = .returned (.tuple #[.int .i64 x, .int .i64 y, .int .i64 z]) ∧ Ext [] w w'

set_option maxRecDepth 100000 in
set_option maxHeartbeats 1000000 in
theorem place_any (ts : List Ty) (ta : Option Addr) (tn tc : Nat) (htn : ts.length = tn) (hS : Sound ts) (q ii : Nat) (w : World) (hT : Tab w ta ts) (hq : q < tn) (hi : ii < (parts (tyAt ts q)).length) :
    Calls Tryd.prog 46 #[.slice ta tn tc, .int .i64 q, .int .i64 ii] w (LPost3 w (offs ts q ii) (offs ts q (ii + 1)) ((parts (tyAt ts q)).getD ii 0)) := by
  have hF := (hS.2.1 q (by omega)).1
  obtain ⟨b, o, rfl, hat⟩ := hT.addr (by omega)
  obtain ⟨fa, fc, hty⟩ := hat q (by omega)
  have K2 := parts_any (tyAt ts q) fa fc w hty.f (fun h9 => by have := hF.2.2.2.2.1 h9; omega)
  unfold tyVal at K2
  obtain ⟨c0, c1, c2, c3, c4, _⟩ := hty
  have hps : parts (tyAt ts q) ≠ [] := fun e => by rw [e] at hi; simp at hi
  have hpl := parts_len hF
  have HB : Hid (∀ p ∈ parts (tyAt ts q), ∃ p' : Nat, p = p' ∧ p' < tn ∧ 0 ≤ (at' (ms ts) p).width ∧ (at' (ms ts) p).width ≤ 16) := fun p hp => by
    have hb := hF.below p hp
    have hf := sound_fit hS (i := p.toNat) (by omega)
    rw [show ((p.toNat : Nat) : Int) = p by omega] at hf
    exact ⟨p.toNat, by omega, by omega, by have := hf.1.w0; exact Int.le_trans (by omega) this, hf.2⟩
  have HOF : Hid (∀ k, offs ts q k = sumWidth (ms ts) ((parts (tyAt ts q)).take k)) := fun k => rfl
  have KW := fun (p : Nat) (hp : p < tn) u (hu : Ext [] w u) => widthOf_any ts (some ⟨b, o, none⟩) tn tc htn (p + 1) p (by omega) hp (fun j hj => hS.2.1 j (by omega)) (hS.2.1 p (by omega)).1 u (hT.keep0 hu)
  have hM : ∀ p, M ts p = at' (ms ts) p := fun p => rfl
  simp only [hM] at KW
  clear hT hat hF hS hM
  generalize parts (tyAt ts q) = ps at *
  have HBD : Hid (∀ k, k < ps.length → 0 ≤ offs ts q k ∧ offs ts q k ≤ 256 ∧ offs ts q (k + 1) = offs ts q k + (at' (ms ts) (ps.getD k 0)).width ∧ ∃ p' : Nat, ps.getD k 0 = p' ∧ p' < tn ∧ 0 ≤ (at' (ms ts) (ps.getD k 0)).width ∧ (at' (ms ts) (ps.getD k 0)).width ≤ 16) := fun k hk => by
    have hbd := sumWidth_bd (E := ms ts) (l := ps.take k) (fun p hp => by obtain ⟨_, _, _, h1, h2⟩ := HB.out p (List.mem_of_mem_take hp); exact ⟨h1, h2⟩)
    have hsn := sumWidth_snoc (ms ts) ps k hk
    rw [List.length_take] at hbd
    rw [HOF.out, HOF.out]
    exact ⟨hbd.1, by omega, hsn, HB.out _ (by rw [show ps.getD k 0 = ps[k] by simp [hk]]; exact List.getElem_mem _)⟩
  go_enter Tryd.func46, Tryd.ntmps46
  go_upto_region 3 with (go_at_call 25; refine K2.mono ?_; rintro e w2 ⟨ia, ic, rfl, hIo, hE2⟩; have HI2 := hid (own_vs hIo); have HE2 := hid hE2; clear hE2 hIo)
  clear K2 c0 c1 c2 c3 c4
  go_loopw [6, 10] (fun fv u wr => ∃ k : Nat, u = .int .i64 k ∧ k ≤ ii ∧ fv = .int .i64 (offs ts q k) ∧ Is wr ia ps ∧ Ext [] w wr) (fun _ u _ => (ii - (intOf u)).toNat)
  case atStart => exact ⟨0, rfl, by omega, by rw [HOF.out]; simp [sumWidth], HI2.out, HE2.out⟩
  case round =>
    obtain ⟨k, rfl, hk, rfl, hIk, hEk⟩ := hrel
    have HIk := hid hIk
    have HEk := hid hEk
    obtain ⟨ib, io, rfl, hcs⟩ := hIk.at_ hps
    clear hIk hEk
    have hck := hcs k (by omega)
    obtain ⟨b0, b1, b2, p, hp, hpn, b3, b4⟩ := HBD.out k (by omega)
    have K := KW p hpn wr HEk.out
    rw [hp] at hck b2 b3 b4
    by_cases hlt : k < ii
    · have hkl : (k : Int) < ii := by omega
      have hkl2 : k < ps.length := by omega
      have e1 : IntKind.wrap .i64 (offs ts q k + (at' (ms ts) (p : Int)).width) = offs ts q (k + 1) := by rw [IntKind.wrap_i64]; omega
      clear hcs KW b2
      generalize (at' (ms ts) (p : Int)).width = wd at *
      generalize ho1 : offs ts q (k + 1) = o1 at *
      have HO1 := hid ho1
      clear ho1
      generalize offs ts q k = o0 at *
      go_wp2_with (go_at_call 53; refine K.mono ?_; rintro e w3 ⟨rfl, hE3⟩)
      go_roundw
      case rel => exact ⟨k + 1, by go_num, by omega, by rw [HO1.out], Is.keep0 HIk.out hE3, HEk.out.trans hE3⟩
      case measure => simp [intOf]; omega
    · obtain rfl : k = ii := by omega
      have hkl : ¬ ((k : Int) < (k : Int)) := by omega
      have e1 : IntKind.wrap .i64 (offs ts q k + (at' (ms ts) (p : Int)).width) = offs ts q (k + 1) := by rw [IntKind.wrap_i64]; omega
      have hkl2 : k < ps.length := hi
      have K2 := fun (u : World) (hu : Ext [] wr u) => KW p hpn u (HEk.out.trans hu)
      have HP := hid hp
      clear hcs KW b2 K hp
      generalize (at' (ms ts) (p : Int)).width = wd at *
      generalize ho1 : offs ts q (k + 1) = o1 at *
      generalize ho0 : offs ts q k = o0 at *
      have HO1 := hid ho1
      have HO0 := hid ho0
      clear ho1 ho0
      go_wp2_with fail
      go_region_held3 (fun w' => w'.cell? ⟨ib, io + k, none⟩ = some (.int .i64 (p : Int)))
        (first | exact hE4.cell ((Ext.drew [] _).cell hck (by simp)) (by simp) | go_keep)
        (first | (go_at_call 53; refine (K2 _ (Ext.drew [] wr)).mono ?_; rintro e w4 ⟨rfl, hE4⟩))
      have HE4 := hid ((HEk.out.trans (Ext.drew [] wr)).trans hE4)
      go_wp2_with fail
      go_ret3
      exact ⟨by first | rfl | (rw [HP.out]; rfl) | (rw [HO0.out, HO1.out, HP.out]; rfl), HE4.out⟩

set_option maxRecDepth 100000 in
set_option maxHeartbeats 1000000 in
theorem rpart_bad (ts : List Ty) (ta : Option Addr) (tn tc : Nat) (htn : ts.length = tn) (d : Nat) (t i : Int) (a : Option Addr) (l : List Cl) (n c : Nat) (w : World) (hC : Cs d w a l) (hn : l.length = n) (hnc : n ≤ c) (hT : Tab w ta ts) (hb : fchk ts d t l i ≠ 0) :
    Calls Tryd.prog 22 #[.slice ta tn tc, .int .i64 t, .slice a n c, .int .i64 i] w (QPost w d [] (fchk ts d t l i)) := by
  have K := rparted_any ts ta tn tc htn d t i a l n c w hC hn hnc hT
  have hb2 : (fchk ts d t l i != 0) = true := by simpa using hb
  generalize fchk ts d t l i = er at *
  clear hC hT
  go_enter Tryd.func22, Tryd.ntmps22
  go_wp2_with (go_at_call 45; refine K.mono ?_; rintro e w1 ⟨rfl, hE1⟩)
  go_ret2
  exact ⟨none, 0, rfl, Nat.le_refl _, Co.nil _ _ _ _, hE1⟩

set_option maxRecDepth 100000 in
set_option maxHeartbeats 1000000 in
theorem rpart_ok (ts : List Ty) (ta : Option Addr) (tn tc : Nat) (htn : ts.length = tn) (d q ii : Nat) (a : Option Addr) (l : List Cl) (n c : Nat) (w : World) (hC : Cs d w a l) (hn : l.length = n) (hnc : n ≤ c) (hT : Tab w ta ts) (hv : vchk ts d q l = 0) (hi : ii < (parts (tyAt ts q)).length) :
    Calls Tryd.prog 22 #[.slice ta tn tc, .int .i64 q, .slice a n c, .int .i64 ii] w (QPost w d (partL ts q l ii) 0) := by
  have K := rparted_any ts ta tn tc htn d q ii a l n c w hC hn hnc hT
  have hps : parts (tyAt ts q) ≠ [] := fun e => by rw [e] at hi; simp at hi
  rw [fchk_ok hv hps (by omega)] at K
  obtain ⟨hbz, hOk⟩ := vchk_zero hv
  obtain ⟨hS, h0, h1⟩ := bad_zero hbz
  have KP := fun u (hu : Ext [] w u) => place_any ts ta tn tc htn hS q ii u (hT.keep0 hu) (by omega) hi
  obtain ⟨o1, o2, o3, o4, o5, o6⟩ := offs_facts hv hi
  rw [o1, o2] at KP
  obtain ⟨d', b, o, hd, rfl, _⟩ := hC.at_ o5
  have hsub := hC.sub (Nat.le_of_lt o3) o4
  have K2 := fun u (hu : Ext [] w u) => rcopy_any d (some ⟨b, o + pb ts q ii * 4, none⟩) (partL ts q l ii) (pb ts q (ii + 1) - pb ts q ii) (c - pb ts q ii) u (hsub.keep0 hu) o6
  have HO6 := hid o6
  generalize partL ts q l ii = pl at *
  generalize (parts (tyAt ts q)).getD ii 0 = kp at *
  generalize pb ts q ii = bg at *
  generalize pb ts q (ii + 1) = en at *
  have g1 : (bg : Int) ≤ en := by omega
  have g2 : (en : Int) ≤ c := by omega
  have g3 : bg < c := by omega
  have g4 : ¬ c = bg := by omega
  have g5 : ¬ c - bg = 0 := by omega
  clear hC hT hv hi hsub hd o1 o2 o6 hps hbz hOk hS h0 h1
  go_enter Tryd.func22, Tryd.ntmps22
  go_wp2_with (first | (go_at_call 45; refine K.mono ?_; rintro e w1 ⟨rfl, hE1⟩; have HE1 := hid hE1; clear hE1) | (go_at_call 46; refine (KP _ HE1.out).mono ?_; rintro e w3 ⟨rfl, hE3⟩; have HE2 := hid (HE1.out.trans hE3); clear hE3) | (go_at_call 11; refine (K2 _ HE2.out).mono ?_; rintro e w2 ⟨a2, c2, rfl, hc2, hCo, hE4⟩))
  go_ret2
  rw [← HO6.out] at *
  exact ⟨a2, c2, rfl, hc2, hCo.imp fun x _ hx => Nat.le_trans HE2.out.size hx, HE2.out.trans hE4⟩

end Go.Proofs.YtfabhhmeanpmhaaDoor
