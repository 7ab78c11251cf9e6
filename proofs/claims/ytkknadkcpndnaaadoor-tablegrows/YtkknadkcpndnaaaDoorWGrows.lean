/-
  The walk of TableGrows; no statement is proved here.
-/
import Derived.Test.YtkknadkcpndnaaaDoorGro
import Derived.Test.YtkknadkcpndnaaaDoorWFinds
namespace Go.Proofs.YtkknadkcpndnaaaDoor
open Go.RowKit Go.Shelf
open Pr (Gp GpI sq pl)
attribute [local go_sem] Oper.semAt_some run_store_func

set_option maxRecDepth 100000 in
set_option maxHeartbeats 4000000 in
theorem growsWalk (G0 : Int) (a : Option Addr) (n c : Nat) (M0 : Int) (h : Nat) (S : List Opr) (hh : h < 18446744073709551616) (w : World) (hS : Scr w a S) (hn : S.length = n) (hnb : n ≤ 17592186044416) (hTb : Tb w) :
    Calls Tryd.prog 6 #[.int .i64 G0, .slice a n c, .int .i64 M0, .int .u64 (h : Nat)] w (SayPost w (.bool true)) := by
  have K0 := grown_any G0 a n c S w hS hn hnb hTb
  have HTb := hid hTb
  clear hS hn hTb
  go_enter Tryd.func6, Tryd.ntmps6
  go_wp2_with fail
  refine K0.mono ?_
  clear K0
  rintro _ w1 ⟨T, G, g, c1, rfl, hSd, hTw, hgw, hX1⟩
  have HX1 := hid hX1
  have HTw := hid hTw
  have HSd := hid hSd
  have hG := hSd.shp.gp.le
  clear hX1 hTw hSd
  go_wp2_with fail
  refine (awake_any w1).mono ?_
  rintro _ w2 ⟨rfl, hX⟩
  have HX2 := hid (HX1.out.trans hX)
  have HTw2 := hid (HTw.out.keep0 hX)
  clear hX HX1 HTw
  have K1 := ownT_any (some ⟨g, 0, none⟩) (3 + 17 * G) c1 T w2 HTw2.out.wd HSd.out.shp.len (by omega) (by omega)
  go_wp2_with fail
  refine K1.mono ?_
  clear K1
  rintro _ w3 ⟨g3, c3, rfl, hT3, hg3, hX⟩
  have HX3 := hid (HX2.out.trans hX)
  have HTw3 := hid (HTw2.out.keep0 hX)
  have K1 := len_true (some ⟨g3, 0, none⟩) c3 T G HSd.out w3 hT3.wd
  obtain ⟨en, hen⟩ : ∃ en, T.getD 1 0 = en := ⟨_, rfl⟩
  have henb := nfl_le T G
  rw [← HSd.out.cnt, hen] at henb
  rw [hen] at K1
  have HEn := hid hen
  clear hX HX2 HTw2 hT3 hg3 hen
  go_wp2_with fail
  refine K1.mono ?_
  clear K1
  rintro _ w4 ⟨rfl, hX⟩
  have HX4 := hid (HX3.out.trans hX)
  have HTw4 := hid (HTw3.out.keep0 hX)
  clear hX HX3 HTw3
  have K1 := ownT_any (some ⟨g, 0, none⟩) (3 + 17 * G) c1 T w4 HTw4.out.wd HSd.out.shp.len (by omega) (by omega)
  go_wp2_with fail
  refine K1.mono ?_
  clear K1
  rintro _ w5 ⟨g5, c5, rfl, hT5, hg5, hX⟩
  have HX5 := hid (HX4.out.trans hX)
  have HTw5 := hid (HTw4.out.keep0 hX)
  clear hX HX4 HTw4
  by_cases hM : GpI M0
  · obtain ⟨M, rfl, hM⟩ := hM
    have hMl := hM.le
    have K1 := tgrow_any (some ⟨g5, 0, none⟩) c5 T G M HSd.out hM w5 hT5.wd (HTb.out.keep0 HX5.out)
    clear hT5 hg5 hM
    go_wp2_with fail
    refine K1.mono ?_
    clear K1
    rintro _ w6 ⟨hX, ⟨X, g6, c6, hH, rfl, hTX, hg6⟩ | ⟨hlt, rfl⟩⟩
    · have HX6 := hid (HX5.out.trans hX)
      have HTw6 := hid (HTw5.out.keep0 hX)
      have HTX6 := hid hTX
      have HH := hid hH
      have hel : (ents T G).length = en := by rw [ents_tot, ← HSd.out.cnt, HEn.out]
      have K1 := ownT_any (some ⟨g6, 0, none⟩) (3 + 17 * M) c6 X w6 hTX.wd hH.sd.shp.len (by omega) (by omega)
      have HEl := hid hel
      clear hX HX5 HTw5 hH hTX hg6 hel
      go_wp2_with fail
      refine K1.mono ?_
      clear K1
      rintro _ w7 ⟨g7, c7, rfl, hT7, hg7, hX⟩
      have HX7 := hid (HX6.out.trans hX)
      have HTw7 := hid (HTw6.out.keep0 hX)
      have HTX7 := hid (HTX6.out.keep0 hX)
      have K1 := len_true (some ⟨g7, 0, none⟩) c7 X M HH.out.sd w7 hT7.wd
      rw [HH.out.len, HEl.out] at K1
      clear hX HX6 HTw6 HTX6 hT7 hg7
      go_wp2_with fail
      refine K1.mono ?_
      clear K1
      rintro _ w8 ⟨rfl, hX⟩
      have HX8 := hid (HX7.out.trans hX)
      have HTw8 := hid (HTw7.out.keep0 hX)
      have HTX8 := hid (HTX7.out.keep0 hX)
      clear hX HX7 HTw7 HTX7
      have hnd := HH.out.nd
      rw [HEl.out] at hnd
      have cx := HTX8.out.cell (j := 2) (by rw [HH.out.sd.shp.len]; omega)
      generalize X.getD 2 0 = x2 at hnd cx
      have hq1 : (x2 : Int) = 7 * (M : Int) - (en : Int) := by omega
      have hq : ((x2 : Int) != 7 * (M : Int) - (en : Int)) = false := by simp [hq1]
      clear hq1
      obtain ⟨na, hna⟩ : ∃ na, (fnd T h G).length = na := ⟨_, rfl⟩
      have hnb2 : (fnd X h M).length = na := by rw [HH.out.tot, ← fnd_lenE HSd.out, hna]
      have hb1 := fnd_len (T := T) (h := h) HSd.out.shp.gp
      rw [hna] at hb1
      have HNa := hid hna
      have HNb := hid hnb2
      clear hna hnb2
      have K1 := found_w g c1 G h na T HSd.out hh HNa.out w8 HTw8.out (HTb.out.keep0 HX8.out)
      go_wp2_with fail
      refine K1.mono ?_
      clear K1 cx hq hnd
      rintro _ w9 ⟨la, lc, rfl, hL, hX⟩
      have HX9 := hid (HX8.out.trans hX)
      have HTX9 := hid (HTX8.out.keep0 hX)
      have HL9 := hid hL
      clear hX HX8 HTw8 HTX8 hL
      have K1 := found_w g6 c6 M h na X HH.out.sd hh HNb.out w9 HTX9.out (HTb.out.keep0 HX9.out)
      go_wp2_with fail
      refine K1.mono ?_
      clear K1
      rintro _ w10 ⟨ma, mc, rfl, hM, hX⟩
      have HX10 := hid (HX9.out.trans hX)
      have HL10 := hid (HL9.out.keep0 hX)
      have HM10 := hid hM
      clear hX HX9 HTX9 HL9 hM
      go_wp2_with fail
      go_loopw [20] (fun q wr => ∃ k : Nat, q = .int .i64 k ∧ k ≤ na ∧ Ext [] w10 wr) (fun q _ => (na - (intOf q)).toNat)
      case atStart => exact ⟨0, rfl, Nat.zero_le _, Ext.refl _ _⟩
      case round =>
        obtain ⟨k, rfl, hk, hX⟩ := hrel
        have HX := hid hX
        by_cases hkn : k < na
        · have hki : (k : Int) < na := by omega
          have hne : fnd T h G ≠ [] := by intro e; have := HNa.out; rw [e] at this; simp at this; omega
          obtain ⟨b1, o1, rfl, hc1⟩ := (HL10.out.keep0 hX).at_ hne
          have ck := hc1 k (by rw [HNa.out]; exact hkn)
          obtain ⟨x, hx⟩ : ∃ x, (fnd T h G).getD k 0 = x := ⟨_, rfl⟩
          rw [hx] at ck
          have KA := fun u (hu : Ext [] wr u) => times_any (some ⟨b1, o1, none⟩) na lc (fnd T h G) x u ((HL10.out.keep0 hX).keep0 hu) HNa.out (by omega)
          have KB := fun u (hu : Ext [] wr u) => times_any ma na mc (fnd X h M) x u ((HM10.out.keep0 hX).keep0 hu) HNb.out (by omega)
          rw [HH.out.cnt, ← fnd_cnt HSd.out] at KB
          generalize (fnd T h G).count x = t at KA KB
          have KA := fun u (hu : Ext [] wr u) => (KA u hu).mono (R' := SayPost u (.int .i64 (t : Nat))) (by rintro e w' ⟨rfl, rfl⟩; exact ⟨rfl, Ext.refl _ _⟩)
          have KB := fun u (hu : Ext [] wr u) => (KB u hu).mono (R' := SayPost u (.int .i64 (t : Nat))) (by rintro e w' ⟨rfl, rfl⟩; exact ⟨rfl, Ext.refl _ _⟩)
          have hxd := Ext.drew [] wr
          clear hc1 hx hX hne
          have ck' : (wr.drew).cell? ⟨b1, o1 + k, none⟩ = some (.int .u64 (x : Nat)) := ck
          go_wp2_with fail
          go_region_held3 (fun w' => w'.cell? ⟨b1, o1 + k, none⟩ = some (.int .u64 (x : Nat)))
            (first | exact (hX1.trans hX2).cell ck' (by simp) | exact hX1.cell ck' (by simp) | go_keep)
            (first | (go_at_call 30; refine (KB u1 (hxd.trans hX1)).mono ?_; rintro e u2 ⟨rfl, hX2⟩) | (go_at_call 30; refine (KA _ hxd).mono ?_; rintro e u1 ⟨rfl, hX1⟩) | fail)
          have HF := hid ((HX.out.trans hxd).trans (hX1.trans hX2))
          clear hX1 hX2 hxd KA KB ck ck'
          go_wp2_with fail
          go_roundw
          case rel => exact ⟨k + 1, by go_num, by omega, HF.out⟩
          case measure => simp [intOf]; omega
        · obtain rfl : k = na := by omega
          clear hX
          go_wp2
          go_ret
          exact ⟨rfl, HX10.out.trans HX.out⟩
    · have HX6 := hid (HX5.out.trans hX)
      rw [HEn.out] at hlt
      have hq : decide ((7 * (M : Int)) < (en : Int)) = true := by simp; omega
      clear hX HX5 HTw5
      go_wp2
      go_ret
      exact ⟨rfl, HX6.out⟩
  · have K1 := tgrow_bad (some ⟨g5, 0, none⟩) c5 T G M0 HSd.out hM w5 hT5.wd
    have HM := hid hM
    clear hT5 hg5 hM
    go_wp2_with fail
    refine K1.mono ?_
    clear K1
    rintro _ w6 ⟨rfl, hX⟩
    have HX6 := hid (HX5.out.trans hX)
    have KG := Pr.groups_any M0 false (by simp; exact HM.out) w6
    clear hX HX5 HTw5
    go_wp2_with (first | (go_at_call 31; refine met KG ?_))
    go_ret
    exact ⟨rfl, HX6.out⟩
end Go.Proofs.YtkknadkcpndnaaaDoor
