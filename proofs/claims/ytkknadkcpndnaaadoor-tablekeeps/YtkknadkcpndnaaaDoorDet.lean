/-
  What Insert makes is one thing alone; no statement is proved here.
-/
import Derived.Test.YtkknadkcpndnaaaDoorSum
namespace Go.Proofs.YtkknadkcpndnaaaDoor
open Pr (Gp GpI sq pl)

theorem first_uniq {f : Nat → List Nat} : ∀ {A A' C C' : List Nat} {g g' : Nat}, A ++ g :: C = A' ++ g' :: C' → (∀ x ∈ A, f x = []) → (∀ x ∈ A', f x = []) → f g ≠ [] → f g' ≠ [] → g = g'
  | [], [], _, _, _, _, e, _, _, _, _ => by
    injection e
  | [], a' :: A', _, _, g, g', e, _, h2, h3, _ => by
    injection e with e1 e2
    exact absurd (h2 g (by rw [e1]; simp)) h3
  | a :: A, [], _, _, g, g', e, h1, _, _, h4 => by
    injection e with e1 e2
    exact absurd (h1 g' (by rw [← e1]; simp)) h4
  | a :: A, a' :: A', _, _, g, g', e, h1, h2, h3, h4 => by
    injection e with e1 e2
    exact first_uniq (A := A) (A' := A') e2 (fun x hx => h1 x (by simp [hx])) (fun x hx => h2 x (by simp [hx])) h3 h4
theorem fst_uniq {T : List Nat} {h G g i g' i' : Nat} (h1 : Fst T h G g i) (h2 : Fst T h G g' i') : g = g' ∧ i = i' := by
  obtain ⟨A, C, l, e, ha, ho⟩ := h1
  obtain ⟨A', C', l', e', ha', ho'⟩ := h2
  have hg : g = g' := first_uniq (f := opn T) (e ▸ e') ha ha' (by rw [ho]; simp) (by rw [ho']; simp)
  subst hg
  rw [ho] at ho'
  injection ho' with q _
  exact ⟨rfl, q⟩
theorem insT_det {T A B : List Nat} {G h d : Nat} (h1 : InsT T G h d (some A)) (h2 : InsT T G h d (some B)) : A = B := by
  obtain ⟨g, i, hf, _, rfl⟩ := h1
  obtain ⟨g', i', hf', _, rfl⟩ := h2
  obtain ⟨rfl, rfl⟩ := fst_uniq hf hf'
  rfl
theorem insT_one {T A : List Nat} {G h d : Nat} (h1 : InsT T G h d (some A)) (h2 : InsT T G h d none) : False := by
  obtain ⟨g, i, hf, hno, _⟩ := h1
  exact hno (h2 g i hf)
end Go.Proofs.YtkknadkcpndnaaaDoor
