/-
  The reference's Check; no statement is proved here.
-/
import Derived.Test.YtpjcbpgfbhlioaaDoorRSound
import Derived.Test.YtpjcbpgfbhlioaaDoorChk
namespace Go.Proofs.YtpjcbpgfbhlioaaDoor
open Go.RowKit

set_option maxRecDepth 100000 in
set_option maxHeartbeats 1000000 in
theorem rvcheck_any (ts : List Ty) (ta : Option Addr) (tn tc : Nat) (htn : ts.length = tn) (d : Nat) (t : Int) (a : Option Addr) (l : List Cl) (n c : Nat) (w : World) (hC : Cs d w a l) (hn : l.length = n) (hnc : n ≤ c) (hT : Tab w ta ts) :
    Calls Tryd.prog 25 #[.slice ta tn tc, .int .i64 t, .slice a n c] w (SayPost w (.int .i64 (vchk ts d t l))) := by
  have K := rbad_any ta ts tn tc t w hT htn
  by_cases hb : bad ts t = 0
  · obtain ⟨hS, h0, h1⟩ := bad_zero hb
    obtain ⟨q, rfl⟩ : ∃ q : Nat, t = q := ⟨t.toNat, by omega⟩
    rw [hb] at K
    have K1 := fun u (hu : Ext [] w u) => rsize_any d a l n c u (hC.keep0 hu) hn
    have K2 := fun u (hu : Ext [] w u) => rsound_any ts ta tn tc htn hS d (q + 1) q (by omega) (by omega) a l n c u (hC.keep0 hu) hn hnc (hT.keep0 hu)
    by_cases hz : siz l ≤ 256
    · have e1 : ¬ ((256 : Int) < (siz l : Int)) := by omega
      by_cases ho : Okv ts d (kinds ts q) l
      · have K3 := fun u hu => test_yes (K2 u hu) ho
        rw [vchk_ok hb ⟨hz, ho⟩]
        generalize siz l = sl at *
        clear K2 hb ho hC hT hS h0 h1 hz
        go_enter Tryd.func25, Tryd.ntmps25
        go_wp2_with (first | (go_at_call 37; refine K.mono ?_; rintro e w1 ⟨rfl, hE1⟩) | (go_at_call 38; refine met (K1 _ hE1) ?_) | (go_at_call 39; refine (K3 _ hE1).mono ?_; rintro e w2 ⟨rfl, hE2⟩))
        go_ret
        exact ⟨rfl, hE1.trans hE2⟩
      · have K3 := fun u hu => test_no (K2 u hu) ho
        rw [vchk_form hb (fun h => ho h.2)]
        generalize siz l = sl at *
        clear K2 hb ho hC hT hS h0 h1 hz
        go_enter Tryd.func25, Tryd.ntmps25
        go_wp2_with (first | (go_at_call 37; refine K.mono ?_; rintro e w1 ⟨rfl, hE1⟩) | (go_at_call 38; refine met (K1 _ hE1) ?_) | (go_at_call 39; refine (K3 _ hE1).mono ?_; rintro e w2 ⟨rfl, hE2⟩))
        go_ret
        exact ⟨rfl, hE1.trans hE2⟩
    · have e1 : (256 : Int) < (siz l : Int) := by omega
      rw [vchk_form hb (fun h => hz h.1)]
      generalize siz l = sl at *
      clear K2 hb hC hT hS h0 h1 hz
      go_enter Tryd.func25, Tryd.ntmps25
      go_wp2_with (first | (go_at_call 37; refine K.mono ?_; rintro e w1 ⟨rfl, hE1⟩) | (go_at_call 38; refine met (K1 _ hE1) ?_))
      go_ret
      exact ⟨rfl, hE1⟩
  · rw [vchk_bad hb]
    have hb2 : (bad ts t != 0) = true := by simpa using hb
    generalize bad ts t = bd at *
    clear hC hT
    go_enter Tryd.func25, Tryd.ntmps25
    go_wp2_with (go_at_call 37; refine K.mono ?_; rintro e w1 ⟨rfl, hE1⟩)
    go_ret
    exact ⟨rfl, hE1⟩

end Go.Proofs.YtpjcbpgfbhlioaaDoor
