/-
  What follows for hashes and equality: plain facts; no statement is proved here.
-/
import Derived.Test.YtpjcbpgfbhlioaaDoorEqF
namespace Go.Proofs.YtpjcbpgfbhlioaaDoor

theorem hsL_bad {f : Int → Cl → Int → Option Int} : ∀ (ks : List Int) (v : List Cl) (h : Int) (i : Nat), i < ks.length → (∀ h, f (ks.getD i 0) (cAt v i) h = none) → hsL f ks v h = none
  | [], _, _, i, hi, _ => by simp at hi
  | k :: ks, v, h, 0, _, hn => by
    have := hn h
    simp only [List.getD_cons_zero] at this
    rw [hsL, this]
  | k :: ks, v, h, i + 1, hi, hn => by
    rw [hsL]
    cases f k (cAt v 0) h with
    | none => rfl
    | some h' => exact hsL_bad ks v.tail h' i (by simpa using hi) (fun q => by rw [cAt_tail]; simpa using hn q)
theorem eqL_err {f : Int → Cl → Cl → Bool × Int} : ∀ (ks : List Int) (v w : List Cl), (eqL f ks v w).2 ≠ 0 → ∃ i, i < ks.length ∧ (f (ks.getD i 0) (cAt v i) (cAt w i)).2 ≠ 0
  | [], _, _, h => by simp [eqL] at h
  | k :: ks, v, w, h => by
    rw [eqL] at h
    split at h
    · obtain ⟨i, hi, he⟩ := eqL_err ks _ _ h
      refine ⟨i + 1, by simpa using hi, ?_⟩
      rw [cAt_tail, cAt_tail] at he
      simpa using he
    · exact ⟨0, by simp, by simpa using h⟩
/-- Where equality is refused so is the hash. -/
theorem eqV_err (ts : List Ty) (s : Int) : ∀ (d : Nat) (t : Int) (v w : List Cl) (h : Int), (eqV ts d t v w).2 ≠ 0 → hsV ts s d t v h = none
  | 0, _, _, _, _, he => by simp [eqV] at he
  | d + 1, t, v, w, h, he => by
    rw [eqV] at he
    rw [hsV]
    obtain ⟨i, hi, hf⟩ := eqL_err _ _ _ he
    refine hsL_bad _ _ _ i hi (fun q => ?_)
    unfold eqC at hf
    unfold hsC
    split
    · rename_i hk; rw [if_pos hk] at hf; simp at hf
    · rename_i hk
      rw [if_neg hk] at hf
      split
      · rename_i hk; rw [if_pos hk] at hf; simp at hf
      · rename_i hk
        rw [if_neg hk] at hf
        split
        · rename_i hk
          rw [if_pos hk] at hf
          split at hf
          · simp at hf
          · split at hf
            · simp at hf
            · rename_i h0
              rw [if_neg h0]
              split at hf
              · rename_i hc; rw [if_pos hc]
              · rename_i hc
                rw [if_neg hc]
                exact eqV_err ts s d _ _ _ _ hf
        · rename_i hk; rw [if_neg hk] at hf; simp at hf

structure HsFacts (ts : List Ty) (d : Nat) (t : Int) (l m : List Cl) (seed salt other : Int) : Prop where
  fh : (hsR ts d t l seed other).2 = (hsR ts d t l seed salt).2
  fi : (sfR ts d t l).2 = (hsR ts d t l seed salt).2
  self : (sfR ts d t l).1 = true → hsR ts d t l seed other = hsR ts d t l seed salt
  eq : (eqR ts d t l m).1 = true → hsR ts d t m seed other = hsR ts d t l seed salt

theorem hsR_err (ts : List Ty) (d : Nat) (t : Int) (l : List Cl) (s s' h h' : Int) : (hsR ts d t l h s).2 = (hsR ts d t l h' s').2 := by
  unfold hsR
  by_cases h0 : vk1 ts d t l = 0
  · rw [if_pos h0, if_pos h0]
    have hn := hsV_none ts s s' d t l h h'
    cases h1 : hsV ts s d t l h with
    | none => rw [hn.1 h1]
    | some x =>
      cases h2 : hsV ts s' d t l h' with
      | none => rw [hn.2 h2] at h1; cases h1
      | some y => rfl
  · rw [if_neg h0, if_neg h0]
theorem vk1_of_vk2 {ts : List Ty} {d : Nat} {t : Int} {v w : List Cl} (h : vk2 ts d t v w = 0) : vk1 ts d t v = 0 ∧ vk1 ts d t w = 0 := by
  obtain ⟨h1, h2, h3⟩ := vk2_zero h
  constructor
  · unfold vk1 vkL; rw [if_pos h1]; unfold vkL; rw [if_pos h3]
  · unfold vk1 vkL; rw [if_pos h2]; unfold vkL; rw [if_pos h3]

theorem hs_facts {ts : List Ty} {d : Nat} {t : Int} {l m : List Cl} {seed salt other : Int} (hl : Bn d l) (hm : Bn d m) : HsFacts ts d t l m seed salt other := by
  refine ⟨hsR_err _ _ _ _ _ _ _ _, ?_, fun h => ?_, fun h => ?_⟩
  · unfold sfR
    split
    · rename_i h0
      rw [hsR_err ts d t l 0 salt 0 seed] at h0
      rw [h0]
      have hk := hsR_zero h0
      unfold hsR at h0
      rw [if_pos hk] at h0
      by_cases he : (eqV ts d t l l).2 = 0
      · exact he
      · rw [eqV_err ts salt d t l l seed he] at h0
        simp at h0
    · exact hsR_err _ _ _ _ _ _ _ _
  · unfold sfR at h
    split at h
    · rename_i h0
      have hk := hsR_zero h0
      unfold hsR
      rw [if_pos hk, if_pos hk, eqV_hash ts other salt d t l l seed hl hl h]
    · simp at h
  · unfold eqR at h
    split at h
    · rename_i h0
      obtain ⟨k1, k2⟩ := vk1_of_vk2 h0
      unfold hsR
      rw [if_pos k1, if_pos k2, eqV_hash ts salt other d t l m seed hl hm h]
    · simp at h

end Go.Proofs.YtpjcbpgfbhlioaaDoor
