/-
  The program's Check, and where a part lies; no statement is proved here.
-/
import Derived.Test.YtfabhhmeanpmhaaDoorSound
namespace Go.Proofs.YtfabhhmeanpmhaaDoor
open Go.RowKit

/-- A sound value of a sound type. -/
def OkV (ts : List Ty) (d : Nat) (t : Int) (l : List Cl) : Prop := siz l ≤ 256 ∧ Okv ts d (kinds ts t) l

open Classical in
noncomputable def vchk (ts : List Ty) (d : Nat) (t : Int) (l : List Cl) : Int := if bad ts t = 0 then (if OkV ts d t l then 0 else 1) else bad ts t
theorem vchk_bad {ts : List Ty} {d : Nat} {t : Int} {l : List Cl} (h : bad ts t ≠ 0) : vchk ts d t l = bad ts t := by unfold vchk; rw [if_neg h]
theorem vchk_form {ts : List Ty} {d : Nat} {t : Int} {l : List Cl} (h : bad ts t = 0) (h2 : ¬ OkV ts d t l) : vchk ts d t l = 1 := by unfold vchk; rw [if_pos h, if_neg h2]
theorem vchk_ok {ts : List Ty} {d : Nat} {t : Int} {l : List Cl} (h : bad ts t = 0) (h2 : OkV ts d t l) : vchk ts d t l = 0 := by unfold vchk; rw [if_pos h, if_pos h2]
theorem vchk_zero {ts : List Ty} {d : Nat} {t : Int} {l : List Cl} (h : vchk ts d t l = 0) : bad ts t = 0 ∧ OkV ts d t l := by
  by_cases h1 : bad ts t = 0
  · by_cases h2 : OkV ts d t l
    · exact ⟨h1, h2⟩
    · rw [vchk_form h1 h2] at h; omega
  · rw [vchk_bad h1] at h; exact absurd h h1

set_option maxRecDepth 100000 in
set_option maxHeartbeats 1000000 in
theorem pcheck_any (ts : List Ty) (ta : Option Addr) (tn tc : Nat) (htn : ts.length = tn) (hc : tn ≤ tc) (d : Nat) (t : Int) (a : Option Addr) (l : List Cl) (n c : Nat) (w : World) (hC : Cs d w a l) (hn : l.length = n) (hT : Tab w ta ts) (hG : Gl w) :
    Calls Tryd.prog 9 #[.slice ta tn tc, .int .i64 t, .slice a n c] w (SayPost w (.int .i64 (vchk ts d t l))) := by
  have K := width_any ta ts tn tc t w hT htn hc hG
  by_cases hb : bad ts t = 0
  · obtain ⟨hS, h0, h1⟩ := bad_zero hb
    obtain ⟨q, rfl⟩ : ∃ q : Nat, t = q := ⟨t.toNat, by omega⟩
    rw [hb] at K
    have K2 := fun u (hu : Ext [] w u) => psound_any ts ta tn tc htn hS d q a l n c u (by omega) (hC.keep0 hu) hn (hT.keep0 hu)
    generalize (mo ts (q : Int)).width = wd at *
    by_cases ho : OkV ts d q l
    · have K3 := fun u hu => test_yes (K2 u hu) ho
      rw [vchk_ok hb ho]
      clear K2 hb ho hC hT hG hS h0 h1
      go_enter Tryd.func9, Tryd.ntmps9
      go_wp2_with (first | (go_at_call 27; refine K.mono ?_; rintro e w1 ⟨rfl, hE1⟩) | (go_at_call 28; refine (K3 _ hE1).mono ?_; rintro e w2 ⟨rfl, hE2⟩))
      go_ret
      exact ⟨rfl, hE1.trans hE2⟩
    · have K3 := fun u hu => test_no (K2 u hu) ho
      rw [vchk_form hb ho]
      clear K2 hb ho hC hT hG hS h0 h1
      go_enter Tryd.func9, Tryd.ntmps9
      go_wp2_with (first | (go_at_call 27; refine K.mono ?_; rintro e w1 ⟨rfl, hE1⟩) | (go_at_call 28; refine (K3 _ hE1).mono ?_; rintro e w2 ⟨rfl, hE2⟩))
      go_ret
      exact ⟨rfl, hE1.trans hE2⟩
  · rw [vchk_bad hb]
    have hb2 : (bad ts t != 0) = true := by simpa using hb
    generalize bad ts t = bd at *
    generalize (mo ts t).width = wd at *
    clear hC hT hG
    go_enter Tryd.func9, Tryd.ntmps9
    go_wp2_with (go_at_call 27; refine K.mono ?_; rintro e w1 ⟨rfl, hE1⟩)
    go_ret
    exact ⟨rfl, hE1⟩

end Go.Proofs.YtfabhhmeanpmhaaDoor
