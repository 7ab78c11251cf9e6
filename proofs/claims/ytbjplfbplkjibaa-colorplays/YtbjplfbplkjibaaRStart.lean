/-
  The reference's Start; no statement is proved here.
-/
import Derived.Test.YtbjplfbplkjibaaRSet
import Derived.Test.YtbjplfbplkjibaaStart
namespace Go.Proofs.Ytbjplfbplkjibaa
open Go.RowKit

theorem wn_col {l : List Nd} (h : ∀ i, (ndAt l i).c ≤ 4) : ∀ k, k ≤ l.length → ∀ i, (ndAt (wn l k) i).c ≤ 4
  | 0, _, i => by rw [wn_zero]; exact h i
  | k + 1, hk, i => by
    rw [wn_succ l k (by omega), ndAt_set (by rw [wn_len]; omega)]
    split
    · unfold wh
      split
      · simp
      · exact h k
    · exact wn_col h k (by omega) i

set_option maxHeartbeats 4000000 in
theorem rstart_any (p : Nat) (G : Gs) (B : Nat → Prop) (ra : Option Addr) (rn rc : Nat) (R : List Int) (w : World) (h : Rg w p G B) (hI : Iv G) (hR : Is w ra R) (hrn : R.length = rn) (hrb : rn ≤ 17592186044416) (hrB : R ≠ [] → ∀ ad, ra = some ad → ¬ B ad.block) :
    Calls Try.prog 17 #[.pointer (some ⟨p, 0, none⟩), .slice ra rn rc] w (RPost w p (start G R).1 B (.int .i64 (start G R).2)) := by
  have hlen := hI.len
  have f3 : w.cell? ⟨p, 2, none⟩ = some (.int .i64 G.ph) := by
    obtain ⟨vn, vl, KV, SV, hm, _⟩ := h
    exact hm.flds.2.2.1
  by_cases hph : G.ph ≠ 0
  · have HF := hid (rg_same h (.int .i64 14))
    rw [show start G R = (G, 14) by simp [start, hph]]
    have hb : ((G.ph : Int) != 0) = true := by simp; omega
    clear h hI hR hrB hph
    generalize G.ph = ph at *
    go_enter Try.func17, Try.ntmps17
    go_wp2_with fail
    go_ret
    exact HF.out
  replace hph : G.ph = 0 := by omega
  have HH := hid h
  have HR := hid hR
  have HRn := hid hrn
  have HrB := hid hrB
  have HI := hid hI
  have KL := fun x : Int => rlive_any p G B x w h hlen hI.col
  have HBad : Hid (∀ k, k < rn → lvB G (R.getD k 0) = false → start G R = (G, 4)) := fun k hk hb => by
    have : R.all (lvB G) = false := by
      rw [List.all_eq_false]
      exact ⟨R.getD k 0, by simp [List.getD, show k < R.length by omega], by rw [hb]; simp⟩
    simp [start, hph, this]
  have HOk : Hid (R.all (lvB G) = true → start G R = (R.foldl sh (begin G), 0)) := fun h0 => by simp [start, hph, h0, begin]
  have hln0 : G.ln = [] := (hI.idle (by omega)).1
  have HBg : Hid ({ G with ph := 1, ln := [], ns := G.ns.map wh } = begin G) := by show _ = _; simp only [begin]; rw [hln0]
  have hb0 : ((G.ph : Int) != 0) = false := by simp [hph]
  have HPh := hid hph
  clear h hI hR hrn hrB hph hln0
  generalize hGph : G.ph = ph0 at f3 hb0
  clear hGph
  go_enter Try.func17, Try.ntmps17
  go_wp2_with fail
  go_loop [5] (fun q => ∃ k : Nat, q = .int .i64 k ∧ k ≤ rn ∧ (R.take k).all (lvB G) = true) (fun q => (rn - (intOf q)).toNat)
  case atStart => exact ⟨0, rfl, Nat.zero_le _, by simp⟩
  case round =>
    obtain ⟨k, rfl, hk, hal⟩ := hrel
    have HAl := hid hal
    clear hal
    by_cases hlt : k < rn
    · obtain ⟨b, o, rfl, c0⟩ := HR.out.cell (j := k) (by rw [HRn.out]; exact hlt)
      have HT : Hid ((R.take (k + 1)).all (lvB G) = ((R.take k).all (lvB G) && lvB G (R.getD k 0))) := by
        show _ = _
        have hkR : k < R.length := by rw [HRn.out]; exact hlt
        have e : R.take (k + 1) = R.take k ++ [R.getD k 0] := by rw [List.take_add_one]; simp [hkR]
        rw [e]
        simp
      have HBk := hid (HBad.out k hlt)
      have K := KL (R.getD k 0)
      generalize R.getD k 0 = x at *
      generalize lvB G x = bx at *
      cases bx
      · have HF := hid (rg_same HH.out (.int .i64 4))
        have HB2 := hid (HBk.out rfl)
        clear KL HBad HOk HBk
        go_wp2_with (go_at_call 28; refine met K ?_)
        go_ret
        rw [HB2.out]
        exact HF.out
      · clear KL
        go_wp2_with (go_at_call 28; refine met K ?_)
        go_round
        case rel => exact ⟨k + 1, by go_num, by omega, by rw [HT.out, HAl.out]; rfl⟩
        case measure => simp [intOf]; omega
    · obtain rfl : k = rn := by omega
      have hall : R.all (lvB G) = true := by have := HAl.out; rwa [← HRn.out, List.take_length] at this
      have HS := hid (HOk.out hall)
      have HAll := hid hall
      clear HOk HBad HAl hall KL
      obtain ⟨vn, vl, KV, SV, h, ft⟩ := HH.out
      obtain ⟨an, cn, rfl, hcn⟩ := own_slice h.row
      obtain ⟨f0, f1, _⟩ := h.flds
      have z2 := h.froz 2
      have z1 := h.froz 1
      have HM0 : Hid (Rm ((w.setCell ⟨p, 2, none⟩ (.int .i64 1)).setCell ⟨p, 1, none⟩ (.slice none 0 0)) p (.slice an G.ns.length cn) (.slice none 0 0) KV SV { G with ph := 1, ln := [] }) := (h.fld 2 (.int .i64 1) { G with ph := 1 } rfl rfl rfl).line (Ext.refl _ _) [] (.inl ⟨rfl, rfl⟩) (.inr (fun g hg => by simp [Value.ownBlock] at hg))
      have HX0 : Hid (Fx B w ((w.setCell ⟨p, 2, none⟩ (.int .i64 1)).setCell ⟨p, 1, none⟩ (.slice none 0 0))) := Fx.of_ext (S := [p]) ((Ext.setCell [p] w _ _ (by simp)).trans (Ext.setCell [p] _ _ _ (by simp))) (by simp; exact .inl ft.p)
      have HT : Hid (Ft B p (.slice an G.ns.length cn) (.slice none 0 0) SV) := ⟨ft.p, ft.n, fun g hg => by simp [Value.ownBlock] at hg, ft.s⟩
      have HWz := hid (wn_zero G.ns)
      have HWa := hid (wn_all G.ns)
      have HWl := hid (wn_len G.ns)
      have HWt := hid (wn_at G.ns)
      have HWs := hid (wn_succ G.ns)
      have HWe := hid (wn_same G.ns)
      have HWc := hid (wn_col HI.out.col)
      obtain ⟨n, hn⟩ : ∃ n, n = G.ns.length := ⟨_, rfl⟩
      have HN := hid hn
      obtain ⟨avl, cvl, hvl, _⟩ := h.lin.slice
      rw [hvl] at f1
      rw [← hn] at f0 hcn hlen
      clear h ft hn hvl
      go_upto_region 10 with fail
      generalize hW1 : (w.setCell ⟨p, 2, none⟩ _).setCell ⟨p, 1, none⟩ _ = W1 at *
      have f0' : W1.cell? ⟨p, 0, none⟩ = some (.slice an n cn) := by have := HM0.out.flds.1; rwa [← HN.out] at this
      clear hW1 f0 f3 z2 z1 f1
      go_wp2_with fail
      go_loopw [6] (fun q wr => ∃ k : Nat, q = .int .i64 k ∧ k ≤ n ∧ Rm wr p (.slice an n cn) (.slice none 0 0) KV SV { G with ph := 1, ln := [], ns := wn G.ns k } ∧ Fx B w wr) (fun q _ => (n - (intOf q)).toNat)
      case atStart => exact ⟨0, rfl, Nat.zero_le _, by rw [HWz.out, HN.out]; exact HM0.out, HX0.out⟩
      case round =>
        clear HM0 HX0 f0'
        obtain ⟨i, rfl, hi, hG, hX⟩ := hrel
        have HG := hid hG
        have HX := hid hX
        clear hX
        have fp := hG.flds.1
        by_cases hin : i < n
        · have hlk : i < G.ns.length := by rw [← HN.out]; exact hin
          have hft : Ft B p (.slice an n cn) (.slice none 0 0) SV := by have := HT.out; rwa [← HN.out] at this
          have K := rlive_any p { G with ph := 1, ln := [], ns := wn G.ns i } B i wr ⟨_, _, _, _, hG, hft⟩ (by simp only [HWl.out, ← HN.out]; exact hlen) (HWc.out i (by omega))
          rw [lvB_nat] at K
          obtain ⟨g, c, hv, hc, hgp, hgl, c0, c1, c2, cf⟩ := hG.node (i := i) (by simp only [HWl.out]; exact hlk)
          simp only [HWl.out, Value.slice.injEq] at hv
          obtain ⟨rfl, hnn, rfl⟩ := hv
          clear hnn
          simp only [HWt.out i i (Nat.le_refl _)] at c0
          have hln : (wn G.ns i).length = n := by rw [HWl.out, HN.out]
          have hii : (i : Int) < n := by omega
          have HD : Hid (lvN { G with ph := 1, ln := [], ns := wn G.ns i } i ↔ ((ndAt G.ns i).c ≠ 0 ∧ (ndAt G.ns i).c ≠ 4)) := by
            show _ ↔ _
            unfold lvN
            simp only [HWt.out i i (Nat.le_refl _)]
          clear hc hG
          by_cases hcl : (ndAt G.ns i).c ≠ 0 ∧ (ndAt G.ns i).c ≠ 4
          · have hdt : decide (lvN { G with ph := 1, ln := [], ns := wn G.ns i } i) = true := decide_eq_true (HD.out.2 hcl)
            rw [hdt] at K
            have HM : Hid (Rm (wr.setCell ⟨g, i * 3, none⟩ (.int .i64 1)) p (.slice (some ⟨g, 0, none⟩) n cn) (.slice none 0 0) KV SV { G with ph := 1, ln := [], ns := wn G.ns (i + 1) }) := by
              have h2 := HG.out
              have e1 : n = ({ G with ph := 1, ln := [], ns := wn G.ns i } : Gs).ns.length := hln.symm
              rw [e1] at h2
              have h3 := Rm.col (G := { G with ph := 1, ln := [], ns := wn G.ns i }) h2 i ⟨1, (ndAt (wn G.ns i) i).s, (ndAt (wn G.ns i) i).k⟩ (by simp only [hln]; exact hin) (fun _ => ⟨by simp only [HWt.out i i (Nat.le_refl _)]; exact hcl.2, rfl, rfl⟩)
              rw [← e1] at h3
              have e2 : wn G.ns (i + 1) = (wn G.ns i).set i ⟨1, (ndAt (wn G.ns i) i).s, (ndAt (wn G.ns i) i).k⟩ := by rw [HWs.out i hlk, HWt.out i i (Nat.le_refl _)]; simp only [wh, if_pos hcl]
              rw [e2]
              exact h3
            have cf0 := cf (i * 3)
            clear HG cf hln HD hcl hdt c1 c2
            generalize (ndAt G.ns i).c = cc at *
            go_wp2_with (go_at_call 28; refine met K ?_)
            go_roundw
            case rel => exact ⟨i + 1, by go_num, by omega, HM.out, HX.out.trans (C := B) (Fx.of_ext (S := [g]) (Ext.setCell [g] wr _ _ (by simp)) (by simp; exact .inl (hft.n g rfl))) (fun _ q => .inl q)⟩
            case measure => simp [intOf]; omega
          · have hdt : decide (lvN { G with ph := 1, ln := [], ns := wn G.ns i } i) = false := decide_eq_false (fun q => hcl (HD.out.1 q))
            rw [hdt] at K
            have HM : Hid (Rm wr p (.slice (some ⟨g, 0, none⟩) n cn) (.slice none 0 0) KV SV { G with ph := 1, ln := [], ns := wn G.ns (i + 1) }) := by
              have h2 := HG.out
              rw [← HWe.out i hlk hcl] at h2
              exact h2
            clear HG cf hln HD hcl hdt c1 c2 c0
            go_wp2_with (go_at_call 28; refine met K ?_)
            go_roundw
            case rel => exact ⟨i + 1, by go_num, by omega, HM.out, HX.out⟩
            case measure => simp [intOf]; omega
        · obtain rfl : i = n := by omega
          have HG2 : Hid (Rg wr p (begin G) (Nw B w)) := by
            refine ⟨_, _, KV, SV, ?_, HT.out.mono (fun _ q => .inl q)⟩
            have h2 := HG.out
            rw [show wn G.ns i = G.ns.map wh by rw [HN.out]; exact HWa.out, HN.out, HBg.out] at h2
            exact h2
          have HI2 : Hid (Iv (begin G)) := iv_begin HI.out HPh.out
          have HLv : Hid (∀ x, lvB (begin G) x = lvB G x) := fun y => by simp only [lvB, begin, wh_lv]
          clear hG HG HWz HWa HWl HWt HWs HWe HT HWc HBg
          go_wp2_with fail
          go_loopw [7] (fun q w3 => ∃ j : Nat, q = .int .i64 j ∧ j ≤ k ∧ Rg w3 p ((R.take j).foldl sh (begin G)) (Nw B w) ∧ Fx B w w3) (fun q _ => (k - (intOf q)).toNat)
          case atStart => exact ⟨0, rfl, Nat.zero_le _, HG2.out, HX.out⟩
          case round =>
            clear HG2 HX fp
            obtain ⟨j, rfl, hj, hG3, hX3⟩ := hrel
            have HG3 := hid hG3
            have HX3 := hid hX3
            clear hG3 hX3
            by_cases hjn : j < k
            · have hjR : j < R.length := by rw [HRn.out]; exact hjn
              obtain ⟨b, o, rfl, c0⟩ := (is_keepF HR.out HX3.out (HrB.out (by intro e; rw [e] at hjR; simp at hjR))).cell (j := j) hjR
              have hIv := iv_shs (R.take j) HI2.out
              have hll := hIv.lln
              have hle := hIv.len
              have hxl : lvB G (R.getD j 0) = true := List.all_eq_true.1 HAll.out _ (by simp [List.getD, hjR])
              have hxb : lvB (begin G) (R.getD j 0) = true := by rw [HLv.out]; exact hxl
              have K := rshade_any p ((R.take j).foldl sh (begin G)) (Nw B w) (R.getD j 0) wr HG3.out (.inr ⟨(lvB_iff.1 hxl).1, by rw [shs_len]; exact lvN_lt (lvB_iff.1 hxb).2⟩) (by omega) hle (idle_w hIv)
              have HN3 : Hid (∀ w4, Rg w4 p (sh ((R.take j).foldl sh (begin G)) (R.getD j 0)) (Nw (Nw B w) wr) → Fx (Nw B w) wr w4 → Rg w4 p ((R.take (j + 1)).foldl sh (begin G)) (Nw B w) ∧ Fx B w w4) := fun w4 g4 x4 => by
                have e1 : (R.take (j + 1)).foldl sh (begin G) = sh ((R.take j).foldl sh (begin G)) (R.getD j 0) := by
                  rw [List.take_add_one, List.foldl_append]; simp [List.getD, hjR]
                rw [e1]
                exact ⟨g4.mono (nw_nw HX3.out.size), HX3.out.trans x4 (fun k q => q)⟩
              clear hIv hll hle hxl hxb hjR HG3 HX3
              generalize R.getD j 0 = x at *
              go_wp2_with fail
              refine K.mono ?_
              clear K
              rintro e w4 ⟨rfl, g4, x4⟩
              have HN4 := hid (HN3.out w4 g4 x4)
              clear g4 x4 HN3
              go_wp2_with fail
              go_roundw
              case rel => exact ⟨j + 1, by go_num, by omega, HN4.out⟩
              case measure => simp [intOf]; omega
            · obtain rfl : j = k := by omega
              go_wp2_with fail
              go_ret
              rw [HS.out]
              refine ⟨rfl, ?_, HX3.out⟩
              have := HG3.out
              rwa [← HRn.out, List.take_length] at this

end Go.Proofs.Ytbjplfbplkjibaa
