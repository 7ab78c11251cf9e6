/-
  Whether the keys of all maps can be compared; no statement is proved here.
-/
import Derived.Test.YtfabhhmeanpmhaaDoorMeas
namespace Go.Proofs.YtfabhhmeanpmhaaDoor
open Go.RowKit

set_option maxRecDepth 100000 in
theorem keys_any (a : Option Addr) (ts : List Ty) (n c eb ec : Nat) (E : List Me) (w : World) (hT : Tab w a ts) (hn : ts.length = n) (hE : n = 0 ∨ Mss w eb 0 E) (hm : E.length = n) (hk : ∀ i, i < n → (tyAt ts i).kind = 6 → 0 ≤ (tyAt ts i).key ∧ (tyAt ts i).key < n) :
    Calls Tryd.prog 79 #[.slice a n c, .slice (some ⟨eb, 0, none⟩) n ec] w (TestPost w (∀ i, i < n → (tyAt ts i).kind = 6 → (at' E (tyAt ts i).key).cmp = true)) := by
  have HT := hid hT
  have HN := hid hn
  have HE := hid hE
  have HM := hid hm
  have HK := hid hk
  have hl := hT.len
  rw [hn] at hl
  clear hT hn hE hm hk
  go_enter Tryd.func79, Tryd.ntmps79
  go_wp2
  go_loopw [9] (fun u wr => ∃ k : Nat, u = .int .i64 k ∧ k ≤ n ∧ Ext [] w wr ∧ ∀ i, i < k → (tyAt ts i).kind = 6 → (at' E (tyAt ts i).key).cmp = true) (fun u _ => (n - (intOf u)).toNat)
  case atStart => exact ⟨0, rfl, Nat.zero_le _, Ext.refl _ _, fun i hi => by omega⟩
  case round =>
    obtain ⟨k, rfl, hkn, hE1, hall⟩ := hrel
    have HE1 := hid hE1
    have HA := hid hall
    clear hE1 hall
    by_cases hlt : k < n
    · obtain ⟨b, o, rfl, hta⟩ := (HT.out.keep0 HE1.out).addr (by rw [HN.out]; omega)
      obtain ⟨fa, fc, c0, c1, c2, c3, c4, _⟩ := hta k (by rw [HN.out]; omega)
      have hkk := HK.out k hlt
      have HS : Hid (∀ i, i < k + 1 → i < k ∨ i = k) := fun i hi => by omega
      have HEE : Hid (Ext [] w (wr.alloc (.cells #[.int .i64 (tyAt ts k).kind, .int .i64 (tyAt ts k).elem, .int .i64 (tyAt ts k).key, .int .i64 (tyAt ts k).len, .slice fa (tyAt ts k).fields.length fc] 45))) := HE1.out.trans (Ext.alloc _ _ _)
      by_cases h6 : (tyAt ts k).kind = 6
      · obtain ⟨g0, g1⟩ := hkk h6
        have HG : Hid (∀ x, at' E (tyAt ts k).key = x → x.cmp = true → (tyAt ts k).kind = 6 → (at' E (tyAt ts k).key).cmp = true) := fun x hx hc _ => by rw [hx]; exact hc
        have HG2 : Hid (∀ x, at' E (tyAt ts k).key = x → x.cmp = false → ¬ ((tyAt ts k).kind = 6 → (at' E (tyAt ts k).key).cmp = true)) := fun x hx hc h => by have := h h6; rw [hx, hc] at this; cases this
        obtain ⟨j, hj⟩ : ∃ j : Nat, (tyAt ts k).key = j := ⟨(tyAt ts k).key.toNat, by omega⟩
        have hme := (HE.out.resolve_left (by omega) j (by have := HM.out; omega)).keep HE1.out (by simp)
        have e2 := hme.c2
        simp only [Nat.zero_add] at e2
        have hne : eb < wr.heap.size := block_lt_of_cell e2
        rw [← hj] at hme
        have HX : Hid (at' E (tyAt ts k).key = at' E j) := by show _ = _; rw [hj]
        rw [hj] at c2 g0 g1
        have h6' := h6
        rw [h6'] at c0
        clear h6' hme
        have HH6 := hid h6
        have HJ := hid hj
        clear h6 hkk hj hta
        generalize at' E j = x at *
        by_cases hx : x.cmp = true
        · rw [hx] at e2
          have HC := hid hx
          clear hx
          go_wp2_with fail
          go_roundw
          case rel => exact ⟨k + 1, by go_num, by omega, HE1.out.trans (Ext.alloc _ _ _), fun i hi => by
            rcases HS.out i hi with h | rfl
            · exact HA.out i h
            · exact HG.out x HX.out HC.out⟩
          case measure => simp [intOf]; omega
        · have hx : x.cmp = false := by simpa using hx
          rw [hx] at e2
          have HC := hid hx
          clear hx
          go_wp2_with fail
          go_ret
          exact ⟨false, rfl, HE1.out.trans (Ext.alloc _ _ _), by simp, fun h => absurd (h k hlt) (HG2.out x HX.out HC.out)⟩
      · have hb : ((tyAt ts k).kind == 6) = false := by simpa using h6
        have H6 := hid h6
        clear h6 hkk hta
        go_wp2_with fail
        go_roundw
        case rel => exact ⟨k + 1, by go_num, by omega, HEE.out, fun i hi => by
          rcases HS.out i hi with h | rfl
          · exact HA.out i h
          · exact fun h => absurd h H6.out⟩
        case measure => simp [intOf]; omega
    · go_wp2
      go_ret
      exact ⟨true, rfl, HE1.out, fun _ i hi => HA.out i (by omega), fun _ => rfl⟩

end Go.Proofs.YtfabhhmeanpmhaaDoor
