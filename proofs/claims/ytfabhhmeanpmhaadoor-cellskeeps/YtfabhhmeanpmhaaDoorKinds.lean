/-
  The kinds of the cells of a type, one behind the other; no statement is proved here.
-/
import Derived.Test.YtfabhhmeanpmhaaDoorFits
namespace Go.Proofs.YtfabhhmeanpmhaaDoor
open Go.RowKit

def kindsF (ts : List Ty) : Nat → Int → List Int
  | 0, _ => []
  | f + 1, t => if parts (tyAt ts t) = [] then [(tyAt ts t).kind] else (parts (tyAt ts t)).flatMap (kindsF ts f)
def kinds (ts : List Ty) (t : Int) : List Int := kindsF ts (t.toNat + 1) t

theorem kindsF_more {ts : List Ty} (h : AllOk ts) : ∀ (f g : Nat) (t : Int), 0 ≤ t → t < ts.length → t.toNat < f → t.toNat < g → kindsF ts f t = kindsF ts g t
  | 0, _, _, _, _, h1, _ => by omega
  | f + 1, 0, _, _, _, _, h2 => by omega
  | f + 1, g + 1, t, h0, hl, h1, h2 => by
    rw [kindsF, kindsF]
    split
    · rfl
    · have hF := (h t.toNat (by omega)).1
      rw [List.flatMap_def, List.flatMap_def]
      congr 1
      apply List.map_congr_left
      intro p hp
      have hb := hF.below p (by rw [show ((t.toNat : Nat) : Int) = t by omega]; exact hp)
      exact kindsF_more h f g p hb.1 (by omega) (by omega) (by omega)
theorem kinds_eq {ts : List Ty} (h : AllOk ts) {t : Int} (h0 : 0 ≤ t) (hl : t < ts.length) : kinds ts t = if parts (tyAt ts t) = [] then [(tyAt ts t).kind] else (parts (tyAt ts t)).flatMap (kinds ts) := by
  unfold kinds
  rw [kindsF]
  split
  · rfl
  · have hF := (h t.toNat (by omega)).1
    rw [List.flatMap_def, List.flatMap_def]
    congr 1
    apply List.map_congr_left
    intro p hp
    have hb := hF.below p (by rw [show ((t.toNat : Nat) : Int) = t by omega]; exact hp)
    exact kindsF_more h _ _ p hb.1 (by omega) (by omega) (by omega)

theorem sumWidth_kinds {ts : List Ty} : ∀ (l : List Int), (∀ p ∈ l, ((kinds ts p).length : Int) = (M ts p).width) → ((l.flatMap (kinds ts)).length : Int) = sumWidth (ms ts) l
  | [], _ => rfl
  | p :: r, h => by
    rw [List.flatMap_cons, List.length_append, sumWidth, Int.natCast_add, h p (by simp), sumWidth_kinds r (fun q hq => h q (by simp [hq]))]
    rfl
theorem kinds_len {ts : List Ty} (h : AllOk ts) : ∀ (N : Nat) (t : Int), 0 ≤ t → t < ts.length → t.toNat < N → ((kinds ts t).length : Int) = (M ts t).width
  | 0, _, _, _, h1 => by omega
  | N + 1, t, h0, hl, h1 => by
    have hF := (h t.toNat (by omega)).1
    have ht : ((t.toNat : Nat) : Int) = t := by omega
    rw [kinds_eq h h0 hl]
    split
    · rename_i hp
      have := plain_wide hF (by omega) (by rw [ht]; exact hp)
      rw [ht] at this
      rw [this]; rfl
    · rename_i hp
      have hm := made_of hF (by omega) (by rw [ht]; exact hp)
      rw [ht] at hm
      rw [hm]
      exact sumWidth_kinds _ (fun p hp2 => by
        have hb := hF.below p (by rw [ht]; exact hp2)
        exact kinds_len h N p hb.1 (by omega) (by omega))
/-- All kinds of cells are those of types without parts. -/
theorem kinds_leaf {ts : List Ty} (h : AllOk ts) : ∀ (N : Nat) (t : Int), 0 ≤ t → t < ts.length → t.toNat < N → ∀ k ∈ kinds ts t, Leaf k
  | 0, _, _, _, h1, _, _ => by omega
  | N + 1, t, h0, hl, h1, k, hk => by
    have hF := (h t.toNat (by omega)).1
    have ht : ((t.toNat : Nat) : Int) = t := by omega
    rw [kinds_eq h h0 hl] at hk
    split at hk
    · rename_i hp
      have h8 := plain_kind hF (by rw [ht]; exact hp)
      rw [ht] at h8
      obtain rfl : k = (tyAt ts t).kind := by simpa using hk
      have hc := hF.1
      rw [ht] at hc
      obtain ⟨c1, c2, _⟩ := hc
      unfold Leaf; omega
    · rename_i hp
      obtain ⟨p, hp2, hk2⟩ := List.mem_flatMap.1 hk
      have hb := hF.below p (by rw [ht]; exact hp2)
      exact kinds_leaf h N p hb.1 (by omega) (by omega) k hk2


theorem parts8 {t : Ty} (h : t.kind = 8) : parts t = t.fields := by rw [parts, if_pos h]
theorem parts9 {t : Ty} (h : t.kind = 9) : parts t = List.replicate t.len.toNat t.elem := by rw [parts, if_neg (by omega), if_pos h]
theorem parts0 {t : Ty} (h : t.kind ≠ 8) (h9 : t.kind ≠ 9) : parts t = [] := by rw [parts, if_neg h, if_neg h9]

end Go.Proofs.YtfabhhmeanpmhaaDoor
