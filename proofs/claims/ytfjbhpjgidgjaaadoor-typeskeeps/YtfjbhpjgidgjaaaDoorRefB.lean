/-
  The pointers of a type as the document's answer by definition finds them; no statement is proved here.
-/
import Derived.Test.YtfjbhpjgidgjaaaDoorRefA
namespace Go.Proofs.YtfjbhpjgidgjaaaDoor
open Go.RowKit

def PPost (w : World) (xs : List Bool) (e : Ending) (w' : World) : Prop := ∃ a c, e = .returned (.slice a xs.length c) ∧ w'.ownsRow w.heap.size 4 1 (.slice a xs.length c) xs.length (xs.map Value.bool) ∧ Ext [] w w'

theorem PPost.mk' {w w0 w' : World} {v : Value} {xs : List Bool} (h : BOwn w0 w' v xs) (hb : w.heap.size ≤ w0.heap.size) (hE : Ext [] w w') : PPost w xs (.returned v) w' := by
  obtain ⟨a, c, rfl, _⟩ := own_slice h
  exact ⟨a, c, rfl, own_base h hb, hE⟩

theorem lit_own (w : World) (xs : List Bool) (hx : xs.length ≤ 1000) : PPost w xs (.returned (.slice (some ⟨w.heap.size, 0, none⟩) xs.length xs.length)) (w.alloc (.cells (xs.map Value.bool).toArray 4)) := by
  have := World.ownsRow_lit (base := w.heap.size) (e := 4) (size := 1) w (xs.map Value.bool).toArray xs.length (Nat.le_refl _) (by unfold maxLen; omega) (by simp)
  exact ⟨_, _, rfl, this, Ext.alloc _ _ _⟩

set_option maxRecDepth 100000 in
set_option maxHeartbeats 2000000 in
theorem pointersOf_any (ts : List Ty) (a : Option Addr) (n c : Nat) (hn : ts.length = n) (hS : AllOk ts) : ∀ (N i : Nat), i < N → i < n → ∀ w, Tab w a ts →
    Calls Tryd.prog 38 #[.slice a n c, .int .i64 i] w (PPost w (M ts i).ptrs)
  | 0, _, h, _, _, _ => by omega
  | N + 1, i, hiN, hi, w, hT => by
    have HIH := hid (pointersOf_any ts a n c hn hS N)
    have hfm := (hS i (by omega)).1
    have HM := hid (hfm.eq (by omega))
    have HMK := hid (made_of hfm (by omega))
    have HNE := hid hfm.ne
    obtain ⟨hft, h16⟩ := ok_fit (ts := ts) (i := i) (by omega) (fun j hj => hS j (by omega))
    have hl1 := hft.len
    have hl2 := hft.dw
    have HL : Hid ((M ts i).ptrs.length ≤ 1000) := by show _ ≤ _; omega
    obtain ⟨b, o, rfl, hta⟩ := hT.addr (by omega)
    obtain ⟨fa, fc, htt⟩ := hta i (by omega)
    obtain ⟨d0, d1, d2, d3, d4, hfo⟩ := htt
    have KP := parts_any (tyAt ts i) fa fc w hfo (fun h => by have := hfm.2.2.2.2.1 h; omega)
    unfold tyVal at KP
    have HKP := hid KP
    have hl := hT.len
    rw [hn] at hl
    have HT := hid hT
    have HBW := hid hfm.below
    have hlp := hfm.length_parts
    have HN := hid hn
    clear hta hfo hT hfm hn hS hft h16 hl1 hl2 KP
    generalize M ts i = m at *
    by_cases h5 : (tyAt ts i).kind = 5 ∨ (tyAt ts i).kind = 6 ∨ (tyAt ts i).kind = 10
    · have HX : Hid (m.ptrs = [true]) := by
        show _ = _
        rw [HM.out]; unfold meas
        rcases h5 with h | h | h <;> simp [h]
      clear HM HMK HNE HIH
      rcases h5 with h5 | h5 | h5
      all_goals
        rw [h5] at d0
        clear h5 HKP
        go_enter Tryd.func38, Tryd.ntmps38
        go_wp2_with fail
        go_ret
        rw [HX.out]
        exact lit_own w [true] (by simp)
    by_cases h4 : (tyAt ts i).kind = 4
    · have HX : Hid (m.ptrs = [true, false]) := by
        show _ = _
        rw [HM.out]; unfold meas; simp [h4]
      rw [h4] at d0
      clear HM HMK HNE HIH HKP h4 h5
      go_enter Tryd.func38, Tryd.ntmps38
      go_wp2_with fail
      go_ret
      rw [HX.out]
      exact lit_own w [true, false] (by simp)
    by_cases h7 : (tyAt ts i).kind = 7
    · have HX : Hid (m.ptrs = [false, true]) := by
        show _ = _
        rw [HM.out]; unfold meas; simp [h7]
      rw [h7] at d0
      clear HM HMK HNE HIH HKP h4 h5 h7
      go_enter Tryd.func38, Tryd.ntmps38
      go_wp2_with fail
      go_ret
      rw [HX.out]
      exact lit_own w [false, true] (by simp)
    by_cases h8 : (tyAt ts i).kind = 8 ∨ (tyAt ts i).kind = 9
    · have hps := HNE.out h8
      have HX : Hid (m.ptrs = allPtrs (ms ts) (parts (tyAt ts i))) := by show _ = _; rw [HMK.out hps]
      have KP := HKP.out
      clear HM HMK HNE HKP h4 h5 h7
      generalize parts (tyAt ts i) = ps at *
      rcases h8 with h8 | h8
      all_goals
        rw [h8] at d0 KP
        clear h8
        go_enter Tryd.func38, Tryd.ntmps38
        go_wp2_with fail
        refine KP.mono ?_
        rintro e w1 ⟨qa, qc, rfl, hO1, hE1⟩
        have HQ := hid (own_vs hO1)
        have HE1 := hid hE1
        clear KP hO1 hE1 d0 d1 d2 d3 d4
        obtain ⟨pb, po, rfl, hpc⟩ := Is.at_ (show Is w1 qa ps from HQ.out) hps
        have HPC := hid hpc
        clear hpc HQ hps
        go_wp2_with fail
        go_loopw [5, 7] (fun lv u wr => ∃ k : Nat, u = .int .i64 k ∧ k ≤ ps.length ∧ BOwn w1 wr lv (allPtrs (ms ts) (ps.take k)) ∧ Ext [] w1 wr) (fun _ u _ => (ps.length - (intOf u)).toNat)
        case atStart => exact ⟨0, rfl, Nat.zero_le _, own_nil _ _ _ _, Ext.refl _ _⟩
        case round =>
          obtain ⟨k, rfl, hkl, hOk, hEk⟩ := hrel
          have HOk := hid hOk
          have HEk := hid hEk
          clear hOk hEk
          by_cases hkm : k < ps.length
          · have hck := HEk.out.cell (HPC.out k hkm) (by simp)
            have hmem : ps.getD k 0 ∈ ps := by simp [List.getD, hkm]
            obtain ⟨p0, p1, _⟩ := HBW.out _ hmem
            have HSP := hid (allPtrs_snoc (ms ts) ps k hkm)
            have htk := ptrs_take (ms ts) ps k hkm
            generalize ps.getD k 0 = x at *
            obtain ⟨q, rfl⟩ : ∃ q : Nat, x = q := ⟨x.toNat, by omega⟩
            have K := HIH.out q (by omega) (by omega) wr ((HT.out.keep0 HE1.out).keep0 HEk.out)
            have HTK : Hid ((allPtrs (ms ts) (ps.take k)).length + (M ts q).ptrs.length ≤ 1000) := Nat.le_trans htk (by have := HL.out; rw [HX.out] at this; exact this)
            have hxm : at' (ms ts) q = M ts q := rfl
            rw [hxm] at HSP
            generalize M ts q = mx at *
            clear hmem p0 p1 hxm htk
            go_wp2_with fail
            refine K.mono ?_
            clear K
            rintro e w2 ⟨ya, yc, rfl, hO2, hE2⟩
            obtain ⟨v9, w9, hr9, hO9, hE9, _⟩ := app_own w1 w2 (HEk.out.trans hE2) 29 29 4 _ 1 Tryd.underlying29 info4 rfl (by omega) _ _ _ (own_keep0 HOk.out hE2) ya mx.ptrs.length yc (mx.ptrs.map Value.bool) (by simp) (own_vs hO2) (fun u hu => by obtain ⟨z, _, rfl⟩ := List.mem_map.1 hu; rfl) (by have := HTK.out; omega)
            have HO9 : Hid (BOwn w1 w9 v9 (allPtrs (ms ts) (ps.take (k + 1)))) := by
              show World.ownsRow _ _ _ _ _ _ _
              rw [HSP.out, List.length_append, List.map_append]
              exact hO9
            have HE9 := hid hE9
            clear hO2 hE2 hO9 hE9
            go_wp2_with (at_builtin; refine wpList_append_run rfl _ _ 29 rfl _ _ _ rfl rfl hr9 ?_)
            go_roundw
            case rel => exact ⟨k + 1, by go_num, by omega, HO9.out, HE9.out⟩
            case measure => simp [intOf]; omega
          · obtain rfl : k = ps.length := by omega
            have HFin : Hid (PPost w m.ptrs (.returned u5) wr) := by
              show PPost _ _ _ _
              rw [HX.out]
              have := HOk.out
              rw [List.take_length] at this
              exact PPost.mk' this HE1.out.size (HE1.out.trans HEk.out)
            go_wp2_with fail
            go_ret
            exact HFin.out
    · have HX : Hid (m.ptrs = [false]) := by
        show _ = _
        rw [HM.out]; unfold meas
        rw [if_neg h4, if_neg h7, if_neg (by omega), if_neg h8, if_neg (by omega)]
      have b5 : ((tyAt ts i).kind == 5) = false := by simp; omega
      have b6 : ((tyAt ts i).kind == 6) = false := by simp; omega
      have b10 : ((tyAt ts i).kind == 10) = false := by simp; omega
      have b4 : ((tyAt ts i).kind == 4) = false := by simpa using h4
      have b7 : ((tyAt ts i).kind == 7) = false := by simpa using h7
      have b8 : ((tyAt ts i).kind == 8) = false := by simp; omega
      have b9 : ((tyAt ts i).kind == 9) = false := by simp; omega
      clear HM HMK HNE HIH HKP h4 h5 h7 h8
      go_enter Tryd.func38, Tryd.ntmps38
      go_wp2_with fail
      go_ret
      rw [HX.out]
      exact lit_own w [false] (by simp)

end Go.Proofs.YtfjbhpjgidgjaaaDoor
