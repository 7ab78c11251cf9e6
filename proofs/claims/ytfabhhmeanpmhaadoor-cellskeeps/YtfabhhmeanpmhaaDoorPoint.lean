/-
  Sound tables: what is known of their types; no statement is proved here.
-/
import Derived.Test.YtfabhhmeanpmhaaDoorCheck
namespace Go.Proofs.YtfabhhmeanpmhaaDoor
open Go.RowKit

theorem sound_fit {ts : List Ty} (h : Sound ts) {i : Nat} (hi : i < ts.length) : Fit (M ts i) ∧ (M ts i).width ≤ 16 :=
  ⟨fit_of ts (i + 1) i (by omega) hi (fun j hj => (h.2.1 j (by omega)).1), (h.2.1 i hi).2⟩

theorem bad_zero {ts : List Ty} {t : Int} (h : bad ts t = 0) : Sound ts ∧ 0 ≤ t ∧ t < ts.length := by
  by_cases hs : Sound ts
  · by_cases ht : 0 ≤ t ∧ t < ts.length
    · exact ⟨hs, ht⟩
    · rw [bad_arg hs ht] at h; omega
  · rw [bad_form hs] at h; omega

def one2 : Ty := ⟨2, 0, 0, 0, []⟩
theorem one2_sound : Sound [one2] := by
  have h0 : ∀ i : Nat, i < [one2].length → i = 0 := fun i hi => by simp at hi; omega
  refine ⟨by simp, fun i hi => ?_, fun i hi => ?_⟩
  · rw [h0 i hi]
    have e : tyAt [one2] (0 : Nat) = one2 := rfl
    refine ⟨⟨?_, ?_⟩, by decide⟩
    · rw [e]; simp [Clean, one2]
    · rw [e]; simp [one2]
  · rw [h0 i hi]
    intro h
    exact absurd h (by decide)
theorem one2_mo : (mo [one2] 0).width = 1 ∧ bad [one2] 0 = 0 := by
  have hb : bad [one2] 0 = 0 := bad_ok one2_sound (by simp)
  exact ⟨by rw [mo_ok hb]; rfl, hb⟩

end Go.Proofs.YtfabhhmeanpmhaaDoor
