/-
  Whose parts are in order, as the document's answer by definition finds it; no statement is proved here.
-/
import Derived.Test.YtfabhhmeanpmhaaDoorRefC
namespace Go.Proofs.YtfabhhmeanpmhaaDoor
open Go.RowKit

set_option maxRecDepth 100000 in
set_option maxHeartbeats 1000000 in
theorem parted_array (a : Option Addr) (ts : List Ty) (n c i : Nat) (w : World) (hT : Tab w a ts) (hn : ts.length = n) (hi : i < n) (k9 : (tyAt ts i).kind = 9) (hf0 : (tyAt ts i).fields.length = 0) (p : Prop) (HPp : Hid (p ↔ 1 ≤ (tyAt ts i).len ∧ (tyAt ts i).len ≤ 16 ∧ Within ts i (tyAt ts i).elem)) :
    Calls Tryd.prog 82 #[.slice a n c, .int .i64 i] w (TestPost w p) := by
  obtain ⟨b, o, rfl, hta⟩ := hT.addr (by omega)
  obtain ⟨fa, fc, d0, d1, d2, d3, d4, hfo⟩ := hta i (by omega)
  rw [k9] at d0
  rw [hf0] at d4
  have hl := hT.len
  rw [hn] at hl
  have hE1 := Ext.alloc [] w (.cells #[.int .i64 9, .int .i64 (tyAt ts i).elem, .int .i64 (tyAt ts i).key, .int .i64 (tyAt ts i).len, .slice fa 0 fc] 45)
  have HT := hid (hT.keep0 hE1)
  have HN := hid hn
  clear hta hfo hT hn k9 hf0 hE1
  generalize tyAt ts i = t at *
  by_cases h1 : 1 ≤ t.len
  · by_cases h2 : t.len ≤ 16
    · have hd1 : decide (t.len < 1) = false := decide_eq_false (by omega)
      have hd2 : decide (16 < t.len) = false := decide_eq_false (by omega)
      by_cases hw : Within ts i t.elem
      · have K := within_yes (some ⟨b, o, none⟩) ts n i c t.elem _ HT.out HN.out (by omega) hw
        have HX := hid (HPp.out.2 ⟨h1, h2, hw⟩)
        clear hw
        go_enter Tryd.func82, Tryd.ntmps82
        go_wp2_with (go_at_call 81; refine met K ?_)
        go_loop [6] (fun q => q = .int .i64 0) (fun _ => 0)
        case atStart => rfl
        case round =>
          subst hrel
          go_wp2_with fail
          go_ret
          exact test_true HX.out (Ext.alloc _ _ _)
      · have K := within_no (some ⟨b, o, none⟩) ts n i c t.elem _ HT.out HN.out (by omega) hw
        have HX := hid (show ¬ p from fun h => hw (HPp.out.1 h).2.2)
        clear hw
        go_enter Tryd.func82, Tryd.ntmps82
        go_wp2_with (go_at_call 81; refine met K ?_)
        go_ret
        exact test_false HX.out (Ext.alloc _ _ _)
    · have HX := hid (show ¬ p from fun h => h2 (HPp.out.1 h).2.1)
      have hd1 : decide (t.len < 1) = false := decide_eq_false (by omega)
      have hd2 : decide (16 < t.len) = true := decide_eq_true (by omega)
      go_enter Tryd.func82, Tryd.ntmps82
      go_wp2_with fail
      go_ret
      exact test_false HX.out (Ext.alloc _ _ _)
  · have HX := hid (show ¬ p from fun h => h1 (HPp.out.1 h).1)
    have hd1 : decide (t.len < 1) = true := decide_eq_true (by omega)
    go_enter Tryd.func82, Tryd.ntmps82
    go_wp2_with fail
    go_ret
    exact test_false HX.out (Ext.alloc _ _ _)

set_option maxRecDepth 100000 in
set_option maxHeartbeats 1000000 in
theorem parted_struct (a : Option Addr) (ts : List Ty) (n c i : Nat) (w : World) (hT : Tab w a ts) (hn : ts.length = n) (hi : i < n) (k8 : (tyAt ts i).kind = 8) (p : Prop) (HPp : Hid (p ↔ 1 ≤ (tyAt ts i).fields.length ∧ (tyAt ts i).fields.length ≤ 16 ∧ ∀ f ∈ (tyAt ts i).fields, Within ts i f)) :
    Calls Tryd.prog 82 #[.slice a n c, .int .i64 i] w (TestPost w p) := by
  obtain ⟨b, o, rfl, hta⟩ := hT.addr (by omega)
  obtain ⟨fa, fc, d0, d1, d2, d3, d4, hfo⟩ := hta i (by omega)
  rw [k8] at d0
  have hl := hT.len
  rw [hn] at hl
  have hE1 := Ext.alloc [] w (.cells #[.int .i64 8, .int .i64 (tyAt ts i).elem, .int .i64 (tyAt ts i).key, .int .i64 (tyAt ts i).len, .slice fa (tyAt ts i).fields.length fc] 45)
  have HT := hid (hT.keep0 hE1)
  have HF := hid hfo
  have HN := hid hn
  have HE1 := hid hE1
  have HFB : Hid (∀ fb fo, fa = some ⟨fb, fo, none⟩ → (tyAt ts i).fields ≠ [] → fb < w.heap.size) := fun fb fo e h0 => by
    obtain ⟨b', o', he, hc⟩ := hfo.1.at_ h0
    rw [e] at he
    cases he
    exact block_lt_of_cell (hc 0 (List.length_pos_iff.2 h0))
  clear hta hfo hT hn k8 hE1
  generalize tyAt ts i = t at *
  by_cases h1 : 1 ≤ t.fields.length
  · by_cases h2 : t.fields.length ≤ 16
    · have hd1 : decide ((t.fields.length : Int) < 1) = false := decide_eq_false (by omega)
      have hd2 : decide (16 < (t.fields.length : Int)) = false := decide_eq_false (by omega)
      have hne : t.fields ≠ [] := List.length_pos_iff.1 (by omega)
      obtain ⟨fb, fo, rfl, hfc⟩ := HF.out.1.at_ hne
      have hfb := HFB.out fb fo rfl hne
      have HFC := hid hfc
      clear hfc hne
      go_enter Tryd.func82, Tryd.ntmps82
      go_wp2_with fail
      go_loop [6] (fun q => ∃ k : Nat, q = .int .i64 k ∧ k ≤ t.fields.length ∧ ∀ j, j < k → Within ts i (t.fields.getD j 0)) (fun q => (t.fields.length - (intOf q)).toNat)
      case atStart => exact ⟨0, rfl, Nat.zero_le _, fun j hj => by omega⟩
      case round =>
        obtain ⟨k, rfl, hk, hall⟩ := hrel
        have HA := hid hall
        clear hall
        by_cases hkm : k < t.fields.length
        · have hck := HFC.out k hkm
          have HMem : Hid (t.fields.getD k 0 ∈ t.fields) := by show _ ∈ _; simp [List.getD, hkm]
          generalize hx : t.fields.getD k 0 = x at *
          have HXX := hid hx
          clear hx
          by_cases hw : Within ts i x
          · have K := within_yes (some ⟨b, o, none⟩) ts n i c x _ HT.out HN.out (by omega) hw
            have HW := hid hw
            clear hw
            go_wp2_with (go_at_call 81; refine met K ?_)
            go_round
            case rel => exact ⟨k + 1, by go_num, by omega, fun j hj => by
              rcases (by omega : j < k ∨ j = k) with h | rfl
              · exact HA.out j h
              · rw [HXX.out]; exact HW.out⟩
            case measure => simp [intOf]; omega
          · have K := within_no (some ⟨b, o, none⟩) ts n i c x _ HT.out HN.out (by omega) hw
            have HW := hid hw
            clear hw
            go_wp2_with (go_at_call 81; refine met K ?_)
            go_ret
            exact test_false (fun h => HW.out ((HPp.out.1 h).2.2 _ HMem.out)) HE1.out
        · go_wp2_with fail
          go_ret
          refine test_true (HPp.out.2 ⟨h1, h2, fun f hf => ?_⟩) HE1.out
          obtain ⟨j, hj, rfl⟩ := List.getElem_of_mem hf
          have := HA.out j (by omega)
          simpa [List.getD, hj] using this
    · have hd1 : decide ((t.fields.length : Int) < 1) = false := decide_eq_false (by omega)
      have hd2 : decide (16 < (t.fields.length : Int)) = true := decide_eq_true (by omega)
      have HX := hid h2
      clear h2
      go_enter Tryd.func82, Tryd.ntmps82
      go_wp2_with fail
      go_ret
      exact test_false (fun h => HX.out (HPp.out.1 h).2.1) (Ext.alloc _ _ _)
  · have hd1 : decide ((t.fields.length : Int) < 1) = true := decide_eq_true (by omega)
    have HX := hid h1
    clear h1
    go_enter Tryd.func82, Tryd.ntmps82
    go_wp2_with fail
    go_ret
    exact test_false (fun h => HX.out (HPp.out.1 h).1) (Ext.alloc _ _ _)

end Go.Proofs.YtfabhhmeanpmhaaDoor
