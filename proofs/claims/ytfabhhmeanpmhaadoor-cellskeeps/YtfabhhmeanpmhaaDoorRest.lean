/-
  Which types name no more than their kind has; no statement is proved here.
-/
import Derived.Test.YtfabhhmeanpmhaaDoorHas
namespace Go.Proofs.YtfabhhmeanpmhaaDoor
open Go.RowKit

/-- The single number of a part. -/
def num (t : Ty) (p : Nat) : Int := if p = 0 then t.key else if p = 1 then t.elem else t.len

/-- None of the parts that its kind has not. -/
def Rest (t : Ty) : Prop := (has t.kind 0 = true ∨ t.key = 0) ∧ (has t.kind 1 = true ∨ t.elem = 0) ∧ (has t.kind 2 = true ∨ t.len = 0) ∧ (has t.kind 3 = true ∨ t.fields.length = 0)

theorem clean_iff (t : Ty) : Clean t ↔ (1 ≤ t.kind ∧ t.kind ≤ 10) ∧ Rest t := by
  have h0 : has t.kind 0 = true ↔ t.kind = 6 := by simp [has]
  have h1 : has t.kind 1 = true ↔ (t.kind = 5 ∨ t.kind = 6 ∨ t.kind = 9 ∨ t.kind = 10) := by simp [has, or_assoc]
  have h2 : has t.kind 2 = true ↔ t.kind = 9 := by simp [has]
  have h3 : has t.kind 3 = true ↔ t.kind = 8 := by simp [has]
  unfold Clean Rest
  rw [h0, h1, h2, h3, List.length_eq_zero_iff]
  constructor
  · rintro ⟨a, b, c, d, e, f⟩
    exact ⟨⟨a, b⟩, d, c, e, f⟩
  · rintro ⟨⟨a, b⟩, d, c, e, f⟩
    exact ⟨a, b, c, d, e, f⟩

def TestPost (w : World) (p : Prop) (e : Ending) (w' : World) : Prop := ∃ r : Bool, e = .returned (.bool r) ∧ Ext [] w w' ∧ (r = true ↔ p)

theorem cells_slot (w : World) (t : Ty) (fa : Option Addr) (fc p : Nat) : (w.alloc (.cells #[.int .i64 t.kind, .int .i64 t.elem, .int .i64 t.key, .int .i64 t.len, .slice fa t.fields.length fc] 45)).cell? ⟨w.heap.size, slot p, none⟩ = some (.int .i64 (num t p)) := by
  rw [cell_of_row _ _ _ _ _ _ (heap_alloc_new w _)]
  unfold slot num
  by_cases h0 : p = 0
  · simp [h0]
  · by_cases h1 : p = 1
    · simp [h1]
    · simp [h0, h1]

theorem rest_any (t : Ty) (fa : Option Addr) (fc : Nat) (w : World) (h : 1 ≤ t.kind ∧ t.kind ≤ 10) (hG : Gl w) : Calls Tryd.prog 88 #[tyVal t fa fc] w (TestPost w (Rest t)) := by
  unfold tyVal
  have hcell := cells_slot w t fa fc
  have HG : Hid (Gl (w.alloc (.cells #[.int .i64 t.kind, .int .i64 t.elem, .int .i64 t.key, .int .i64 t.len, .slice fa t.fields.length fc] 45))) := hG.keep0 (Ext.alloc _ _ _)
  have HC : Hid (∀ p, (w.alloc (.cells #[.int .i64 t.kind, .int .i64 t.elem, .int .i64 t.key, .int .i64 t.len, .slice fa t.fields.length fc] 45)).cell? ⟨w.heap.size, slot p, none⟩ = some (.int .i64 (num t p))) := hcell
  have HK : Hid (1 ≤ t.kind ∧ t.kind ≤ 10) := h
  clear hG hcell h
  go_enter Tryd.func88, Tryd.ntmps88
  go_wp2
  go_loop [4] (fun q => ∃ k : Nat, q = .int .i64 k ∧ k ≤ 3 ∧ ∀ j, j < k → has t.kind j = true ∨ num t j = 0) (fun q => (3 - (intOf q)).toNat)
  case atStart => exact ⟨0, rfl, Nat.zero_le _, fun j hj => by omega⟩
  case round =>
    obtain ⟨k, rfl, hk, hall⟩ := hrel
    have HA : Hid (∀ j, j < k → has t.kind j = true ∨ num t j = 0) := hall
    clear hall
    by_cases hk3 : k < 3
    · have K1 := hasPart_any t.kind k _ HK.out (by omega) HG.out
      have K2 := numberOf_any w.heap.size k (w.alloc (.cells #[.int .i64 t.kind, .int .i64 t.elem, .int .i64 t.key, .int .i64 t.len, .slice fa t.fields.length fc] 45)) (by omega)
      have hc := HC.out k
      by_cases hh : has t.kind k = true
      · rw [hh] at K1
        have HH : Hid (has t.kind k = true) := hh
        clear hh
        go_wp2_with (go_at_call 97; refine met K1 ?_)
        go_round
        case rel => exact ⟨k + 1, by go_num, by omega, fun j hj => by
          rcases (by omega : j < k ∨ j = k) with h | rfl
          · exact HA.out j h
          · exact .inl HH.out⟩
        case measure => simp [intOf]; omega
      · have hh : has t.kind k = false := by simpa using hh
        rw [hh] at K1
        have HH : Hid (has t.kind k = false) := hh
        clear hh
        by_cases hz : num t k = 0
        · rw [hz] at hc
          have HZ : Hid (num t k = 0) := hz
          clear hz
          go_wp2_with (first | (go_at_call 97; refine met K1 ?_) | (go_at_call 98; refine met K2 ?_))
          go_round
          case rel => exact ⟨k + 1, by go_num, by omega, fun j hj => by
            rcases (by omega : j < k ∨ j = k) with h | rfl
            · exact HA.out j h
            · exact .inr HZ.out⟩
          case measure => simp [intOf]; omega
        · have hb : (num t k != 0) = true := by simpa using hz
          have HZ : Hid (¬ num t k = 0) := hz
          clear hz
          go_wp2_with (first | (go_at_call 97; refine met K1 ?_) | (go_at_call 98; refine met K2 ?_))
          go_ret
          refine ⟨false, rfl, Ext.alloc _ _ _, by simp, fun hr => ?_⟩
          obtain ⟨r0, r1, r2, _⟩ := hr
          have h1 := HH.out
          have h2 := HZ.out
          rcases (by omega : k = 0 ∨ k = 1 ∨ k = 2) with rfl | rfl | rfl
          · rcases r0 with r | r
            · rw [h1] at r; cases r
            · exact absurd r h2
          · rcases r1 with r | r
            · rw [h1] at r; cases r
            · exact absurd r h2
          · rcases r2 with r | r
            · rw [h1] at r; cases r
            · exact absurd r h2
    · have K1 := hasPart_any t.kind 3 _ HK.out (by omega) HG.out
      have HR : Hid ((has t.kind 0 = true ∨ t.key = 0) ∧ (has t.kind 1 = true ∨ t.elem = 0) ∧ (has t.kind 2 = true ∨ t.len = 0)) := ⟨HA.out 0 (by omega), HA.out 1 (by omega), HA.out 2 (by omega)⟩
      by_cases hh : has t.kind 3 = true
      · rw [hh] at K1
        have HH : Hid (has t.kind 3 = true) := hh
        clear hh
        go_wp2_with (go_at_call 97; refine met K1 ?_)
        go_ret
        exact ⟨true, rfl, Ext.alloc _ _ _, fun _ => ⟨HR.out.1, HR.out.2.1, HR.out.2.2, .inl HH.out⟩, fun _ => rfl⟩
      · have hh : has t.kind 3 = false := by simpa using hh
        rw [hh] at K1
        have HH : Hid (has t.kind 3 = false) := hh
        clear hh
        go_wp2_with (go_at_call 97; refine met K1 ?_)
        go_ret
        refine ⟨_, rfl, Ext.alloc _ _ _, fun hr => ⟨HR.out.1, HR.out.2.1, HR.out.2.2, .inr ?_⟩, fun hr => ?_⟩
        · simpa using hr
        · rcases hr.2.2.2 with r | r
          · rw [HH.out] at r; cases r
          · simpa using r

end Go.Proofs.YtfabhhmeanpmhaaDoor
