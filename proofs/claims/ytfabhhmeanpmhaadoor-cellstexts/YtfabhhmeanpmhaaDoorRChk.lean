/-
  The reference's Check and parted; no statement is proved here.
-/
import Derived.Test.YtfabhhmeanpmhaaDoorRSound
import Derived.Test.YtfabhhmeanpmhaaDoorFind
namespace Go.Proofs.YtfabhhmeanpmhaaDoor
open Go.RowKit

set_option maxRecDepth 100000 in
set_option maxHeartbeats 1000000 in
theorem rvcheck_any (ts : List Ty) (ta : Option Addr) (tn tc : Nat) (htn : ts.length = tn) (d : Nat) (t : Int) (a : Option Addr) (l : List Cl) (n c : Nat) (w : World) (hC : Cs d w a l) (hn : l.length = n) (hnc : n ≤ c) (hT : Tab w ta ts) :
    Calls Tryd.prog 12 #[.slice ta tn tc, .int .i64 t, .slice a n c] w (SayPost w (.int .i64 (vchk ts d t l))) := by
  have K := rbad_any ta ts tn tc t w hT htn
  by_cases hb : bad ts t = 0
  · obtain ⟨hS, h0, h1⟩ := bad_zero hb
    obtain ⟨q, rfl⟩ : ∃ q : Nat, t = q := ⟨t.toNat, by omega⟩
    rw [hb] at K
    have K1 := fun u (hu : Ext [] w u) => rsize_any d a l n c u (hC.keep0 hu) hn
    have K2 := fun u (hu : Ext [] w u) => rsound_any ts ta tn tc htn hS d (q + 1) q (by omega) (by omega) a l n c u (hC.keep0 hu) hn hnc (hT.keep0 hu)
    by_cases hz : siz l ≤ 256
    · have e1 : ¬ ((256 : Int) < (siz l : Int)) := by omega
      by_cases ho : Okv ts d (kinds ts q) l
      · have K3 := fun u hu => test_yes (K2 u hu) ho
        rw [vchk_ok hb ⟨hz, ho⟩]
        generalize siz l = sl at *
        clear K2 hb ho hC hT hS h0 h1 hz
        go_enter Tryd.func12, Tryd.ntmps12
        go_wp2_with (first | (go_at_call 29; refine K.mono ?_; rintro e w1 ⟨rfl, hE1⟩) | (go_at_call 19; refine met (K1 _ hE1) ?_) | (go_at_call 30; refine (K3 _ hE1).mono ?_; rintro e w2 ⟨rfl, hE2⟩))
        go_ret
        exact ⟨rfl, hE1.trans hE2⟩
      · have K3 := fun u hu => test_no (K2 u hu) ho
        rw [vchk_form hb (fun h => ho h.2)]
        generalize siz l = sl at *
        clear K2 hb ho hC hT hS h0 h1 hz
        go_enter Tryd.func12, Tryd.ntmps12
        go_wp2_with (first | (go_at_call 29; refine K.mono ?_; rintro e w1 ⟨rfl, hE1⟩) | (go_at_call 19; refine met (K1 _ hE1) ?_) | (go_at_call 30; refine (K3 _ hE1).mono ?_; rintro e w2 ⟨rfl, hE2⟩))
        go_ret
        exact ⟨rfl, hE1.trans hE2⟩
    · have e1 : (256 : Int) < (siz l : Int) := by omega
      rw [vchk_form hb (fun h => hz h.1)]
      generalize siz l = sl at *
      clear K2 hb hC hT hS h0 h1 hz
      go_enter Tryd.func12, Tryd.ntmps12
      go_wp2_with (first | (go_at_call 29; refine K.mono ?_; rintro e w1 ⟨rfl, hE1⟩) | (go_at_call 19; refine met (K1 _ hE1) ?_))
      go_ret
      exact ⟨rfl, hE1⟩
  · rw [vchk_bad hb]
    have hb2 : (bad ts t != 0) = true := by simpa using hb
    generalize bad ts t = bd at *
    clear hC hT
    go_enter Tryd.func12, Tryd.ntmps12
    go_wp2_with (go_at_call 29; refine K.mono ?_; rintro e w1 ⟨rfl, hE1⟩)
    go_ret
    exact ⟨rfl, hE1⟩

set_option maxRecDepth 100000 in
set_option maxHeartbeats 1000000 in
theorem rparted_any (ts : List Ty) (ta : Option Addr) (tn tc : Nat) (htn : ts.length = tn) (d : Nat) (t i : Int) (a : Option Addr) (l : List Cl) (n c : Nat) (w : World) (hC : Cs d w a l) (hn : l.length = n) (hnc : n ≤ c) (hT : Tab w ta ts) :
    Calls Tryd.prog 45 #[.slice ta tn tc, .int .i64 t, .slice a n c, .int .i64 i] w (SayPost w (.int .i64 (fchk ts d t l i))) := by
  have K := rvcheck_any ts ta tn tc htn d t a l n c w hC hn hnc hT
  by_cases hv : vchk ts d t l = 0
  · obtain ⟨hbz, hOk⟩ := vchk_zero hv
    obtain ⟨hS, h0, h1⟩ := bad_zero hbz
    obtain ⟨q, rfl⟩ : ∃ q : Nat, t = q := ⟨t.toNat, by omega⟩
    have hF := (hS.2.1 q (by omega)).1
    obtain ⟨b, o, rfl, hat⟩ := hT.addr (by omega)
    obtain ⟨fa, fc, hty⟩ := hat q (by omega)
    have HTY := hid hty
    have K2 := fun u (hu : Ext [] w u) => parts_any (tyAt ts q) fa fc u (hty.keep0 hu).f (fun h9 => by have := hF.2.2.2.2.1 h9; omega)
    unfold tyVal at K2
    have hq : q < tn := by omega
    rw [hv] at K
    have HPK := hid (fun h => fchk_kind (i := i) hv h)
    have HPR := hid (fun h1 h2 => fchk_range (i := i) hv h1 h2)
    have HPO := hid (fun h1 h2 => fchk_ok (i := i) hv h1 h2)
    clear hC hT hv hbz hOk hS h0 h1 hat hty hF
    generalize parts (tyAt ts q) = ps at *
    by_cases hps : ps = []
    · rw [HPK.out hps]
      subst hps
      go_enter Tryd.func45, Tryd.ntmps45
      go_wp2_with (first
        | (go_at_call 12; refine K.mono ?_; rintro e w1 ⟨rfl, hE1⟩; obtain ⟨c0, c1, c2, c3, c4, _⟩ := HTY.out.keep0 hE1)
        | (go_at_call 25; refine (K2 _ hE1).mono ?_; rintro e w2 ⟨ia, ic, rfl, _, hE2⟩))
      go_ret
      exact ⟨rfl, hE1.trans hE2⟩
    · have hp1 : ((ps.length : Int) == 0) = false := by have := List.length_pos_iff.2 hps; simp; omega
      have hp2 : ¬ ((ps.length : Int) = 0) := by have := List.length_pos_iff.2 hps; omega
      by_cases hr : i < 0 ∨ (ps.length : Int) ≤ i
      · rw [HPR.out hps hr]
        rcases (by omega : i < 0 ∨ (¬ i < 0 ∧ (ps.length : Int) ≤ i)) with r1 | ⟨r1, r2⟩
        all_goals
          clear hr
          go_enter Tryd.func45, Tryd.ntmps45
          go_wp2_with (first
            | (go_at_call 12; refine K.mono ?_; rintro e w1 ⟨rfl, hE1⟩; obtain ⟨c0, c1, c2, c3, c4, _⟩ := HTY.out.keep0 hE1)
            | (go_at_call 25; refine (K2 _ hE1).mono ?_; rintro e w2 ⟨ia, ic, rfl, _, hE2⟩))
          go_ret
          exact ⟨rfl, hE1.trans hE2⟩
      · rw [HPO.out hps hr]
        have r1 : ¬ i < 0 := by omega
        have r2 : ¬ ((ps.length : Int) ≤ i) := by omega
        clear hr
        go_enter Tryd.func45, Tryd.ntmps45
        go_wp2_with (first
          | (go_at_call 12; refine K.mono ?_; rintro e w1 ⟨rfl, hE1⟩; obtain ⟨c0, c1, c2, c3, c4, _⟩ := HTY.out.keep0 hE1)
          | (go_at_call 25; refine (K2 _ hE1).mono ?_; rintro e w2 ⟨ia, ic, rfl, _, hE2⟩))
        go_ret
        exact ⟨rfl, hE1.trans hE2⟩
  · rw [fchk_bad hv]
    have hv2 : (vchk ts d t l != 0) = true := by simpa using hv
    generalize vchk ts d t l = vc at *
    clear hC hT
    go_enter Tryd.func45, Tryd.ntmps45
    go_wp2_with (go_at_call 12; refine K.mono ?_; rintro e w1 ⟨rfl, hE1⟩)
    go_ret
    exact ⟨rfl, hE1⟩

end Go.Proofs.YtfabhhmeanpmhaaDoor
