/-
  WFinds: joined by program; no statement is proved here.
-/
import Derived.Test.YtkknadkcpndnaaaDoorZP
/-
  The walk of TableFinds; no statement is proved here.
-/
namespace Go.Proofs.YtkknadkcpndnaaaDoor
open Go.RowKit Go.Shelf
open Pr (Gp GpI sq pl)
attribute [local go_sem] Oper.semAt_some run_store_func

def FwPost (w : World) (n : Nat) (L : List Nat) (e : Ending) (w' : World) : Prop := ∃ va vc, e = .returned (.tuple #[.slice va n vc, .bool true]) ∧ Wd w' va L ∧ Ext [] w w'
theorem found_w (g c G h n : Nat) (T : List Nat) (hS : Sd T G) (hh : h < 18446744073709551616) (hn : (fnd T h G).length = n) (w : World) (hT : Tw w g T) (hTb : Tb w) :
    Calls Tryd.prog 14 #[.slice (some ⟨g, 0, none⟩) (3 + 17 * G) c, .int .u64 (h : Nat)] w (FwPost w n (fnd T h G)) :=
  (found_any (some ⟨g, 0, none⟩) c T G h hS hh w hT.wd hTb).mono (by
    rintro e w' ⟨v, rfl, ho, hX⟩
    obtain ⟨va, vc, rfl, _⟩ := own_slice ho
    rw [hn] at ho ⊢
    exact ⟨va, vc, rfl, own_vs ho, hX⟩)
theorem fnd_len {T : List Nat} {G h : Nat} (hG : Gp G) : (fnd T h G).length ≤ 8 * G := by unfold fnd; rw [List.length_map]; exact mts_len hG
theorem sel_ex (G0 : Int) : ∃ G : Nat, Gp G ∧ ((G0 = G ∧ G ≤ 16) ∨ ((¬ GpI G0 ∨ 16 < G0) ∧ G = 2)) := by
  by_cases h : GpI G0 ∧ G0 ≤ 16
  · obtain ⟨⟨G, rfl, hG⟩, h2⟩ := h
    exact ⟨G, hG, .inl ⟨rfl, by omega⟩⟩
  · refine ⟨2, gp2, .inr ⟨?_, rfl⟩⟩
    by_cases q : GpI G0
    · right
      have : ¬ G0 ≤ 16 := fun r => h ⟨q, r⟩
      omega
    · exact .inl q
theorem grown_any (G0 : Int) (a : Option Addr) (n c : Nat) (S : List Opr) (w : World) (hS : Scr w a S) (hn : S.length = n) (hnb : n ≤ 17592186044416) (hTb : Tb w) : Calls Tryd.prog 29 #[.int .i64 G0, .slice a n c] w (GrPost w) := by
  obtain ⟨G, hG, hsel⟩ := sel_ex G0
  exact grown_of G0 G hG a n c S w hS hn hnb hTb hsel

set_option maxRecDepth 100000 in
set_option maxHeartbeats 4000000 in
theorem findsWalk (G0 : Int) (a : Option Addr) (n c h d o : Nat) (S : List Opr) (hh : h < 18446744073709551616) (hd : d < 18446744073709551616) (ho : o < 18446744073709551616) (w : World) (hS : Scr w a S) (hn : S.length = n) (hnb : n ≤ 17592186044416) (hTb : Tb w) :
    Calls Tryd.prog 5 #[.int .i64 G0, .slice a n c, .int .u64 (h : Nat), .int .u64 (d : Nat), .int .u64 (o : Nat)] w (SayPost w (.bool true)) := by
  have K0 := grown_any G0 a n c S w hS hn hnb hTb
  have HTb := hid hTb
  clear hS hn hTb
  go_enter Tryd.func5, Tryd.ntmps5
  go_wp2_with fail
  refine K0.mono ?_
  clear K0
  rintro _ w1 ⟨T, G, g, c1, rfl, hSd, hTw, hgw, hX1⟩
  have HX1 := hid hX1
  have HTw := hid hTw
  have HSd := hid hSd
  have hG := hSd.shp.gp.le
  clear hX1 hTw hSd
  go_wp2_with fail
  refine (awake_any w1).mono ?_
  rintro _ w2 ⟨rfl, hX⟩
  have HX2 := hid (HX1.out.trans hX)
  have HTw2 := hid (HTw.out.keep0 hX)
  clear hX HX1 HTw
  obtain ⟨nl, hnl⟩ : ∃ nl, (fnd T h G).length = nl := ⟨_, rfl⟩
  obtain ⟨nm, hnm⟩ : ∃ nm, (fnd T o G).length = nm := ⟨_, rfl⟩
  have hb1 := fnd_len (T := T) (h := h) HSd.out.shp.gp
  have hb2 := fnd_len (T := T) (h := o) HSd.out.shp.gp
  rw [hnl] at hb1
  rw [hnm] at hb2
  have K1 := found_w g c1 G h nl T HSd.out hh hnl w2 HTw2.out (HTb.out.keep0 HX2.out)
  have HNl := hid hnl
  have HNm := hid hnm
  clear hnl hnm
  go_wp2_with fail
  refine K1.mono ?_
  clear K1
  rintro _ w3 ⟨la, lc, rfl, hL, hX⟩
  have HX3 := hid (HX2.out.trans hX)
  have HTw3 := hid (HTw2.out.keep0 hX)
  have HL3 := hid hL
  clear hX HX2 HTw2 hL
  have K1 := found_w g c1 G o nm T HSd.out ho HNm.out w3 HTw3.out (HTb.out.keep0 HX3.out)
  go_wp2_with fail
  refine K1.mono ?_
  clear K1
  rintro _ w4 ⟨ma, mc, rfl, hM, hX⟩
  have HX4 := hid (HX3.out.trans hX)
  have HTw4 := hid (HTw3.out.keep0 hX)
  have HL4 := hid (HL3.out.keep0 hX)
  have HM4 := hid hM
  clear hX HX3 HTw3 HL3 hM
  have K1 := ownT_any (some ⟨g, 0, none⟩) (3 + 17 * G) c1 T w4 HTw4.out.wd HSd.out.shp.len (by omega) (by omega)
  go_wp2_with fail
  refine K1.mono ?_
  clear K1
  rintro _ w5 ⟨g5, c5, rfl, hT5, hg5, hX⟩
  have HX5 := hid (HX4.out.trans hX)
  have HTw5 := hid (HTw4.out.keep0 hX)
  have HL5 := hid (HL4.out.keep0 hX)
  have HM5 := hid (HM4.out.keep0 hX)
  have K1 := tinsert_any (some ⟨g5, 0, none⟩) c5 T G h d HSd.out hh hd w5 hT5.wd (HTb.out.keep0 HX5.out)
  clear hX HX4 HTw4 HL4 HM4 hT5 hg5
  go_wp2_with fail
  refine K1.mono ?_
  clear K1
  rintro _ w6 ⟨hX, hres⟩
  have HX6 := hid (HX5.out.trans hX)
  have HTw6 := hid (HTw5.out.keep0 hX)
  have HL6 := hid (HL5.out.keep0 hX)
  have HM6 := hid (HM5.out.keep0 hX)
  have h56 : w5.heap.size ≤ w6.heap.size := hX.size
  clear hX HX5 HTw5 HL5 HM5
  have K1 := ownT_any (some ⟨g, 0, none⟩) (3 + 17 * G) c1 T w6 HTw6.out.wd HSd.out.shp.len (by omega) (by omega)
  rcases hres with ⟨T', gx, cx, hI, rfl, hTx, hgx⟩ | ⟨_, rfl⟩
  · obtain ⟨hS', hcnt, hct, hln, hoth⟩ := ins_facts HSd.out hh hd hI
    have HTx := hid hTx
    have HS' := hid hS'
    have HCnt := hid hcnt
    have HCt := hid hct
    have HLn := hid hln
    have HOth := hid hoth
    clear hTx hS' hcnt hct hln hoth hI
    go_wp2_with fail
    refine K1.mono ?_
    clear K1
    rintro _ w7 ⟨g7, c7, rfl, hT7, hg7, hX⟩
    have HX7 := hid (HX6.out.trans hX)
    have HL7 := hid (HL6.out.keep0 hX)
    have HM7 := hid (HM6.out.keep0 hX)
    have HTx7 := hid (HTx.out.keep0 hX)
    have K1 := len_true (some ⟨g7, 0, none⟩) c7 T G HSd.out w7 hT7.wd
    obtain ⟨en, hen⟩ : ∃ en, T.getD 1 0 = en := ⟨_, rfl⟩
    have henb := nfl_le T G
    rw [← HSd.out.cnt, hen] at henb
    rw [hen] at K1
    have HEn := hid hen
    clear hX HX6 HTw6 HL6 HM6 HTx hT7 hg7 hen
    go_wp2_with fail
    refine K1.mono ?_
    clear K1
    rintro _ w8 ⟨rfl, hX⟩
    have HX8 := hid (HX7.out.trans hX)
    have HL8 := hid (HL7.out.keep0 hX)
    have HM8 := hid (HM7.out.keep0 hX)
    have HTx8 := hid (HTx7.out.keep0 hX)
    clear hX HX7 HL7 HM7 HTx7
    obtain ⟨nl2, hnl2⟩ : ∃ nl2, (fnd T' h G).length = nl2 := ⟨_, rfl⟩
    have hl2 : nl2 = nl + 1 := by rw [← hnl2, HLn.out, HNl.out]
    have K1 := found_w gx cx G h nl2 T' HS'.out hh hnl2 w8 HTx8.out (HTb.out.keep0 HX8.out)
    have HNl2 := hid hnl2
    have HL2e := hid hl2
    clear hnl2 hl2
    go_wp2_with fail
    refine K1.mono ?_
    clear K1
    rintro _ w9 ⟨l2a, l2c, rfl, hL2, hX⟩
    have HX9 := hid (HX8.out.trans hX)
    have HL9 := hid (HL8.out.keep0 hX)
    have HM9 := hid (HM8.out.keep0 hX)
    have HTx9 := hid (HTx8.out.keep0 hX)
    have HL29 := hid hL2
    clear hX HX8 HL8 HM8 HTx8 hL2
    obtain ⟨nm2, hnm2⟩ : ∃ nm2, (fnd T' o G).length = nm2 := ⟨_, rfl⟩
    have K1 := found_w gx cx G o nm2 T' HS'.out ho hnm2 w9 HTx9.out (HTb.out.keep0 HX9.out)
    have HNm2 := hid hnm2
    clear hnm2
    go_wp2_with fail
    refine K1.mono ?_
    clear K1
    rintro _ w10 ⟨m2a, m2c, rfl, hM2, hX⟩
    have HX10 := hid (HX9.out.trans hX)
    have HL10 := hid (HL9.out.keep0 hX)
    have HM10 := hid (HM9.out.keep0 hX)
    have HTx10 := hid (HTx9.out.keep0 hX)
    have HL210 := hid (HL29.out.keep0 hX)
    have HM210 := hid hM2
    clear hX HX9 HL9 HM9 HTx9 HL29 hM2
    have K1 := ownT_any (some ⟨gx, 0, none⟩) (3 + 17 * G) cx T' w10 HTx10.out.wd HS'.out.shp.len (by omega) (by omega)
    go_wp2_with fail
    refine K1.mono ?_
    clear K1
    rintro _ w11 ⟨g11, c11, rfl, hT11, hg11, hX⟩
    have HX11 := hid (HX10.out.trans hX)
    have HL11 := hid (HL10.out.keep0 hX)
    have HM11 := hid (HM10.out.keep0 hX)
    have HTx11 := hid (HTx10.out.keep0 hX)
    have HL211 := hid (HL210.out.keep0 hX)
    have HM211 := hid (HM210.out.keep0 hX)
    have K1 := tdelete_any (some ⟨g11, 0, none⟩) c11 T' G h d HS'.out hh w11 hT11.wd (HTb.out.keep0 HX11.out)
    clear hX HX10 HL10 HM10 HTx10 HL210 HM210 hT11 hg11
    go_wp2_with fail
    refine K1.mono ?_
    clear K1
    rintro _ w12 ⟨hX, hres⟩
    have HX12 := hid (HX11.out.trans hX)
    have HL12 := hid (HL11.out.keep0 hX)
    have HM12 := hid (HM11.out.keep0 hX)
    have HTx12 := hid (HTx11.out.keep0 hX)
    have HL212 := hid (HL211.out.keep0 hX)
    have HM212 := hid (HM211.out.keep0 hX)
    clear hX HX11 HL11 HM11 HTx11 HL211 HM211
    rcases hres with ⟨Ty, gy, cy, hD, rfl, hTy, hgy⟩ | ⟨hD, _⟩
    case inr => exact absurd hD (del_some (by rw [HCt.out]; omega))
    obtain ⟨hSy, hcy, hcty, hlny⟩ := del_facts HS'.out hD
    have HTy12 := hid hTy
    have HSy := hid hSy
    have HCy := hid hcy
    have HCty := hid hcty
    have HLny := hid hlny
    clear hTy hSy hcy hcty hlny hD
    obtain ⟨nl3, hnl3⟩ : ∃ nl3, (fnd Ty h G).length = nl3 := ⟨_, rfl⟩
    have hl3 : nl3 = nl := by have := HLny.out; rw [hnl3, HNl2.out, HL2e.out] at this; omega
    have K1 := found_w gy cy G h nl3 Ty HSy.out hh hnl3 w12 HTy12.out (HTb.out.keep0 HX12.out)
    have HNl3 := hid hnl3
    have HL3e := hid hl3
    clear hnl3 hl3
    go_wp2_with fail
    refine K1.mono ?_
    clear K1
    rintro _ w13 ⟨l3a, l3c, rfl, hL3, hX⟩
    have HX13 := hid (HX12.out.trans hX)
    have HL13 := hid (HL12.out.keep0 hX)
    have HM13 := hid (HM12.out.keep0 hX)
    have HTx13 := hid (HTx12.out.keep0 hX)
    have HTy13 := hid (HTy12.out.keep0 hX)
    have HL213 := hid (HL212.out.keep0 hX)
    have HM213 := hid (HM212.out.keep0 hX)
    have HL313 := hid hL3
    clear hX HX12 HL12 HM12 HTx12 HTy12 HL212 HM212 hL3
    have K1 := ownT_any (some ⟨gx, 0, none⟩) (3 + 17 * G) cx T' w13 HTx13.out.wd HS'.out.shp.len (by omega) (by omega)
    go_wp2_with fail
    refine K1.mono ?_
    clear K1
    rintro _ w14 ⟨g14, c14, rfl, hT14, hg14, hX⟩
    have HX14 := hid (HX13.out.trans hX)
    have HL14 := hid (HL13.out.keep0 hX)
    have HM14 := hid (HM13.out.keep0 hX)
    have HTy14 := hid (HTy13.out.keep0 hX)
    have HL214 := hid (HL213.out.keep0 hX)
    have HM214 := hid (HM213.out.keep0 hX)
    have HL314 := hid (HL313.out.keep0 hX)
    have K1 := len_true (some ⟨g14, 0, none⟩) c14 T' G HS'.out w14 hT14.wd
    rw [HCnt.out, HEn.out] at K1
    obtain ⟨en2, hen2⟩ : ∃ en2, en + 1 = en2 := ⟨_, rfl⟩
    rw [hen2] at K1
    have HEn2 := hid hen2
    clear hX HX13 HL13 HM13 HTx13 HTy13 HL213 HM213 HL313 hT14 hg14 hen2
    go_wp2_with fail
    refine K1.mono ?_
    clear K1
    rintro _ w15 ⟨rfl, hX⟩
    have HX15 := hid (HX14.out.trans hX)
    have HL15 := hid (HL14.out.keep0 hX)
    have HM15 := hid (HM14.out.keep0 hX)
    have HTy15 := hid (HTy14.out.keep0 hX)
    have HL215 := hid (HL214.out.keep0 hX)
    have HM215 := hid (HM214.out.keep0 hX)
    have HL315 := hid (HL314.out.keep0 hX)
    clear hX HX14 HL14 HM14 HTy14 HL214 HM214 HL314
    have K1 := ownT_any (some ⟨gy, 0, none⟩) (3 + 17 * G) cy Ty w15 HTy15.out.wd HSy.out.shp.len (by omega) (by omega)
    go_wp2_with fail
    refine K1.mono ?_
    clear K1
    rintro _ w16 ⟨g16, c16, rfl, hT16, hg16, hX⟩
    have HX16 := hid (HX15.out.trans hX)
    have HL16 := hid (HL15.out.keep0 hX)
    have HM16 := hid (HM15.out.keep0 hX)
    have HL216 := hid (HL215.out.keep0 hX)
    have HM216 := hid (HM215.out.keep0 hX)
    have HL316 := hid (HL315.out.keep0 hX)
    have K1 := len_true (some ⟨g16, 0, none⟩) c16 Ty G HSy.out w16 hT16.wd
    have hey : Ty.getD 1 0 = en := by have := HCy.out; rw [HCnt.out, HEn.out] at this; omega
    rw [hey] at K1
    clear hX HX15 HL15 HM15 HTy15 HL215 HM215 HL315 hT16 hg16 hey
    go_wp2_with fail
    refine K1.mono ?_
    clear K1
    rintro _ w17 ⟨rfl, hX⟩
    have HX17 := hid (HX16.out.trans hX)
    have hL := HL16.out.keep0 hX
    have HM17 := hid (HM16.out.keep0 hX)
    have hL2 := HL216.out.keep0 hX
    have HM217 := hid (HM216.out.keep0 hX)
    have hL3 := HL316.out.keep0 hX
    have KT1 := times_any l2a nl2 l2c (fnd T' h G) d w17 hL2 HNl2.out (by have := HL2e.out; omega)
    have KT2 := times_any la nl lc (fnd T h G) d w17 hL HNl.out (by omega)
    have KT3 := times_any l3a nl3 l3c (fnd Ty h G) d w17 hL3 HNl3.out (by have := HL3e.out; omega)
    have e1 := HCt.out
    have e2 := HCty.out
    obtain ⟨t1, ht1⟩ : ∃ t1, (fnd T h G).count d = t1 := ⟨_, rfl⟩
    obtain ⟨t2, ht2⟩ : ∃ t2, (fnd T' h G).count d = t2 := ⟨_, rfl⟩
    obtain ⟨t3, ht3⟩ : ∃ t3, (fnd Ty h G).count d = t3 := ⟨_, rfl⟩
    have hcl : t1 ≤ nl := by rw [← ht1, ← HNl.out]; exact List.count_le_length
    rw [ht1, ht2] at e1
    rw [ht2, ht3] at e2
    rw [ht1] at KT2
    rw [ht2] at KT1
    rw [ht3] at KT3
    have q1 : (en2 : Int) = (en : Int) + 1 := by have := HEn2.out; omega
    have q1b : ((en2 : Int) != (en : Int) + 1) = false := by simp [q1]
    have q2b : ((t2 : Int) != (t1 : Int) + 1) = false := by simp; omega
    have q3b : ((t3 : Int) != (t1 : Int)) = false := by simp; omega
    have q4b : ((nl2 : Int) != (nl : Int) + 1) = false := by have := HL2e.out; simp; omega
    have q5b : ((nl3 : Int) != (nl : Int)) = false := by have := HL3e.out; simp; omega
    clear hX HX16 HL16 HM16 HL216 HM216 HL316 hL hL2 hL3 q1 ht1 ht2 ht3 e1 e2
    have HE : Hid (h ≠ o → nm2 = nm ∧ Wd w17 m2a (fnd T o G)) := fun q => by
      have e := HOth.out o (fun r => q r.symm)
      have h1 := HNm2.out
      have h2 := HM217.out
      rw [e] at h1 h2
      exact ⟨by rw [← h1, HNm.out], h2⟩
    go_wp2_with fail
    refine met KT1 ?_
    go_wp2_with fail
    refine met KT2 ?_
    go_wp2_with fail
    refine met KT3 ?_
    go_wp2_with fail
    refine met KT2 ?_
    clear KT1 KT2 KT3
    by_cases hoh : h = o
    · have hoh' : ((h : Int) == (o : Int)) = true := by simp [hoh]
      clear hoh HE
      go_wp2
      go_ret
      exact ⟨rfl, HX17.out⟩
    · have hoh' : ((h : Int) == (o : Int)) = false := by simp; omega
      obtain ⟨hmm, hW⟩ := HE.out hoh
      have KS := sameWords_true ma m2a nm mc m2c (fnd T o G) w17 HM17.out hW HNm.out (by omega)
      subst hmm
      clear HE hW
      go_wp2_with fail
      refine KS.mono ?_
      clear KS
      rintro _ w18 ⟨rfl, hX⟩
      have HX18 := hid (HX17.out.trans hX)
      clear hX
      go_wp2
      go_ret
      exact ⟨rfl, HX18.out⟩
  · go_wp2_with fail
    refine K1.mono ?_
    clear K1
    rintro _ w7 ⟨g7, c7, rfl, hT7, hg7, hX⟩
    have HX7 := hid (HX6.out.trans hX)
    have K1 := len_true (some ⟨g7, 0, none⟩) c7 T G HSd.out w7 hT7.wd
    have henb := nfl_le T G
    rw [← HSd.out.cnt] at henb
    generalize T.getD 1 0 = en at *
    clear hX HX6 HTw6 HL6 HM6 hT7 hg7
    go_wp2_with fail
    refine K1.mono ?_
    clear K1
    rintro _ w8 ⟨rfl, hX⟩
    have HX8 := hid (HX7.out.trans hX)
    clear hX HX7
    go_wp2
    go_ret
    exact ⟨rfl, HX8.out⟩
end Go.Proofs.YtkknadkcpndnaaaDoor
