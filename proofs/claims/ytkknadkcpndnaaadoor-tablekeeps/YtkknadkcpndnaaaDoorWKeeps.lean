/-
  The walk through TableKeeps; no statement is proved here.
-/
import Derived.Test.YtkknadkcpndnaaaDoorRmE
import Derived.Test.YtkknadkcpndnaaaDoorRmF
import Derived.Test.YtkknadkcpndnaaaDoorRmG
namespace Go.Proofs.YtkknadkcpndnaaaDoor.Rm
open Go.RowKit Go.Shelf
open Pr (Gp GpI sq pl)
attribute [local go_sem] Oper.semAt_some run_store_func wide_fn wide_depth

theorem Tw.pre {Rq : Nat} {w : World} {g : Nat} {T X : List Nat} (h : Tw Rq w g (T ++ X)) : Wd w (some ⟨g, 0, none⟩) T :=
  .inr ⟨g, 0, rfl, fun j hj => by
    rw [vw_len] at hj
    rw [Nat.zero_add, h.cell (by simp; omega), vw_at T hj]
    simp [List.getD, List.getElem?_append_left hj]⟩

theorem Rr.up {lo : Nat} {w : World} {a : Option Addr} {n c : Nat} {L : List Nat} (h : Rr lo w a n c L) : ∀ ad, a = some ad → ad.block < w.heap.size := by
  rintro ad rfl
  rcases h.2 with ⟨q, _⟩ | ⟨b, q, hT, _⟩
  · cases q
  · cases q
    exact hT.lt
set_option maxRecDepth 100000 in
set_option maxHeartbeats 4000000 in
theorem walk (x : Int) (a : Option Addr) (n c : Nat) (S : List Opr) (ok og : Int) (oh od : Nat) (y : Int) (w : World) (hS : Scr w a S) (hn : S.length = n) (hnb : n ≤ 17592186044416) (hoh : oh < 18446744073709551616) (hod : od < 18446744073709551616) (hTb : Tb w) :
    Calls Tryd.prog 7 #[.int .i64 x, .slice a n c, .agg #[.int .i64 ok, .int .i64 og, .int .u64 oh, .int .u64 od], .int .i64 y] w (SayPost w (.bool true)) := by
  refine (callsIn_wide (n := 16)).1 ?_
  refine callsIn_of_wp_marks Tryd.func7 rfl trivial ?_ rfl
  simp only [Tryd.ntmps7, List.size_toArray, List.length_cons, List.length_nil, Nat.reduceAdd, Nat.reduceSub, Array.replicate_succ, Array.replicate_zero, List.push_toArray, List.append_toArray, List.nil_append, List.cons_append]
  obtain ⟨z, hz⟩ : ∃ z, w.heap.size = z := ⟨_, rfl⟩
  obtain ⟨W0, hW0⟩ : ∃ W0, ((w.alloc (.cells #[.int .i64 ok, .int .i64 og, .int .u64 (oh : Nat), .int .u64 (od : Nat)] 25)).alloc (.cells #[.int .i64 y] 3)).alloc (.cells #[.bool false] 4) = W0 := ⟨_, rfl⟩
  have hE0 : Ext [] w W0 := by rw [← hW0]; exact ((Ext.alloc [] _ _).trans (Ext.alloc [] _ _)).trans (Ext.alloc [] _ _)
  have b0 : W0.heap[z]? = some (.cells #[.int .i64 ok, .int .i64 og, .int .u64 (oh : Nat), .int .u64 (od : Nat)] 25 (0, 0)) := by
    rw [← hW0, ← hz]
    exact (Ext.alloc [] _ _).keep ((Ext.alloc [] _ _).keep (heap_alloc_new w _) (by simp)) (by simp)
  have b1 : Boxed W0 (z + 1) 3 (.int .i64 y) := by
    have := (Boxed.new (w.alloc (.cells #[.int .i64 ok, .int .i64 og, .int .u64 (oh : Nat), .int .u64 (od : Nat)] 25)) 3 (.int .i64 y)).alloc (.cells #[.bool false] 4)
    rw [hW0, World.size_alloc, hz] at this; exact this
  have b2 : Boxed W0 (z + 2) 4 (.bool false) := by
    have := Boxed.new ((w.alloc (.cells #[.int .i64 ok, .int .i64 og, .int .u64 (oh : Nat), .int .u64 (od : Nat)] 25)).alloc (.cells #[.int .i64 y] 3)) 4 (.bool false)
    rw [hW0, World.size_alloc, World.size_alloc, hz] at this; exact this
  have K := grown_any x a n c S W0 (hS.keep0 hE0) hn (by omega) (hTb.keep0 hE0)
  have Ho := hid (fun u (hu : Ext [] W0 u) => (show u.cell? ⟨z, 2, none⟩ = some (.int .u64 (oh : Nat)) ∧ u.cell? ⟨z, 3, none⟩ = some (.int .u64 (od : Nat)) from ⟨by rw [cell_of_row _ _ _ _ _ _ (hu.keep b0 (by simp))]; rfl, by rw [cell_of_row _ _ _ _ _ _ (hu.keep b0 (by simp))]; rfl⟩))
  have HE0 := hid hE0
  have Hb1 := hid b1
  have Hb2 := hid b2
  have HTb0 := hid (hTb.keep0 hE0)
  have HZ := hid hz
  have HS0 := hid (show z + 2 < W0.heap.size from b2.lt)
  clear hE0 b0 b1 b2 hS hTb hn
  gi_wp2_with fail
  try rw [hW0]
  try simp only [hz]
  simp only [show z + 1 + 1 = z + 2 from rfl]
  clear hW0 hz
  refine (callsIn_wide.2 K).mono ?_
  clear K
  rintro e w1 ⟨T, G, g0, c0, rfl, hSd, hT0, hg0, hE1⟩
  have HSd := hid hSd
  have HT0 := hid hT0
  have hlen := hSd.shp.len
  have hG := hSd.shp.gp.le
  have hGp := hSd.shp.gp.pos
  have HE1 := hid hE1
  have HG0 := hid hg0
  clear hSd hT0 hE1 hg0
  gi_wp2_with fail
  refine (callsIn_wide.2 (awake_any w1)).mono ?_
  rintro e w2 ⟨rfl, hE2⟩
  have HE2 := hid (HE1.out.trans hE2)
  have HT2 := hid (HT0.out.keep0 hE2)
  have K := own_any (some ⟨g0, 0, none⟩) (3 + 17 * G) c0 T w2 HT2.out.wd hlen (by omega)
  have hlz : (3 + 17 * (G : Int) == 0) = false := by simp; omega
  clear hE2 HT0 HE1
  gi_wp2_with fail
  refine (callsIn_wide.2 K).mono ?_
  clear K
  rintro e w3 ⟨a3, c3, rfl, ho3, hE3⟩
  have hE3a := Ext.alloc [] w3 (.cells #[.int .u64 71, .int .u64 72] 23)
  obtain ⟨v4, w4, hr4, ho4, hE4, _⟩ := app_own w2 (w3.alloc (.cells #[.int .u64 71, .int .u64 72] 23)) (hE3.trans hE3a) 22 22 23 _ 8 Tryd.underlying22 info23 rfl (by omega) _ T.length (vw T) (own_keep0 ho3 hE3a) (some ⟨w3.heap.size, 0, none⟩) 2 2 (vw [71, 72]) rfl (vs_new w3 23 [.int .u64 71, .int .u64 72]) (vw_one _) (by omega)
  rw [hlen] at hr4 ho4 ⊢
  rw [← vw_append] at ho4
  obtain ⟨a4, c4, rfl, hc4⟩ := own_slice ho4
  obtain ⟨g4, rfl, hg4, hT4⟩ := tw_of_own ho4 (by simp [hlen]) (by omega)
  have HT4 := hid hT4
  have HE4 := hid hE4
  have HG4 := hid hg4
  clear ho3 hE3 hE3a hT4 hE4 ho4 hg4
  have HX4 := hid (HE2.out.trans HE4.out)
  obtain ⟨o2, o3⟩ := Ho.out w4 HX4.out
  have K := ins_o (some ⟨g4, 0, none⟩) c4 T G oh od HSd.out hoh hod w4 HT4.out.pre (HTb0.out.keep0 HX4.out)
  gi_wp2_with (gi_at_builtin; refine wpListIn_append_run rfl _ _ 22 rfl _ _ _ rfl rfl hr4 ?_)
  clear hr4
  refine (callsIn_wide.2 K).mono ?_
  clear K o2 o3
  rintro e w5 ⟨O1, aA, nA, cA, eA, hI1, rfl, hRA, hnA, heA, hE5⟩
  have HI1 := hid hI1
  have HRA := hid hRA
  have HE45 := hid hE5
  have HeA := hid heA
  have HX5 := hid (HX4.out.trans hE5)
  clear hI1 hRA hE5 heA
  obtain ⟨o2, o3⟩ := Ho.out w5 HX5.out
  have K := ins_o (some ⟨g4, 0, none⟩) c4 T G oh od HSd.out hoh hod w5 (HT4.out.pre.keep0 HE45.out) (HTb0.out.keep0 HX5.out)
  gi_wp2_with fail
  refine (callsIn_wide.2 K).mono ?_
  clear K o2 o3
  rintro e w6 ⟨O2, aB, nB, cB, eB, hI2, rfl, hRB, hnB, heB, hE6⟩
  obtain rfl := ino_det HI1.out hI2
  have HRB := hid hRB
  have HE56 := hid hE6
  have HX6 := hid (HX5.out.trans hE6)
  have HE46 := hid (HE45.out.trans hE6)
  clear hI2 hRB hE6 heB HI1
  have K := grow_o (some ⟨g4, 0, none⟩) c4 T G HSd.out w6 (HT4.out.pre.keep0 HE46.out) (HTb0.out.keep0 HX6.out)
  gi_wp2_with fail
  refine (callsIn_wide.2 K).mono ?_
  clear K
  rintro e w7 ⟨LC, aC, nC, cC, eC, rfl, hRC, hnC, hE7⟩
  have HRC := hid hRC
  have HE67 := hid hE7
  have HX7 := hid (HX6.out.trans hE7)
  have HE47 := hid (HE46.out.trans hE7)
  clear hRC hE7
  obtain ⟨o2, o3⟩ := Ho.out w7 HX7.out
  have K := del_o (some ⟨g4, 0, none⟩) c4 T G oh od HSd.out hoh w7 (HT4.out.pre.keep0 HE47.out) (HTb0.out.keep0 HX7.out)
  gi_wp2_with fail
  refine (callsIn_wide.2 K).mono ?_
  clear K o2 o3
  rintro e w8 ⟨LD, aD, nD, cD, eD, rfl, hRD, hnD, hE8⟩
  have HRD := hid hRD
  have HE78 := hid hE8
  have HX8 := hid (HX7.out.trans hE8)
  have HE48 := hid (HE47.out.trans hE8)
  clear hRD hE8
  obtain ⟨o2, o3⟩ := Ho.out w8 HX8.out
  have K := find_any (some ⟨g4, 0, none⟩) c4 T G oh HSd.out hoh w8 (HT4.out.pre.keep0 HE48.out) (HTb0.out.keep0 HX8.out)
  gi_wp2_with fail
  refine (callsIn_wide.2 K).mono ?_
  clear K o2 o3
  rintro e w9 ⟨Bn, vi, rfl, hbn, hon, hBn, hE9⟩
  have HBN := hid hbn
  have HON := hid hon
  have HBg := hid hBn
  have HE89 := hid hE9
  have HX9 := hid (HX8.out.trans hE9)
  have HE49 := hid (HE48.out.trans hE9)
  clear hbn hon hBn hE9
  have K := tall_any g4 0 c4 T G HSd.out w9 (HT4.out.pre.keep0 HE49.out)
  gi_wp2_with fail
  refine (callsIn_wide.2 K).mono ?_
  clear K
  rintro e w10 ⟨Bt, gB, cB2, rfl, hbt, hTB, hgB, hBt, hE10⟩
  have HBT := hid hbt
  have HTB := hid hTB
  have HGB := hid hgB
  have HBt := hid hBt
  have HE90 := hid hE10
  have HX10 := hid (HX9.out.trans hE10)
  have HE410 := hid (HE49.out.trans hE10)
  clear hbt hTB hgB hBt hE10
  have hf1 := fun W => eql_func_nil W 81 #[.pointer (some ⟨Bn, 0, none⟩)]
  have hf2 := fun W => eql_func_nil66 W 78 #[.pointer (some ⟨Bt, 0, none⟩)]
  have K := sameWords_true (some ⟨g4, 0, none⟩) (some ⟨g0, 0, none⟩) (3 + 17 * G) c4 c0 T w10 (HT4.out.pre.keep0 HE410.out) (HT2.out.wd.keep0 (HE4.out.trans HE410.out)) hlen (by omega)
  gi_wp2_with fail
  clear hf1 hf2
  refine (callsIn_wide.2 K).mono ?_
  clear K
  rintro e w11 ⟨rfl, hE11⟩
  have HX11 := hid (HX10.out.trans hE11)
  have HE411 := hid (HE410.out.trans hE11)
  have HE011 := hid hE11
  have hT4 := HT4.out.keep0 HE411.out
  have f1 := hT4.cell (j := 3 + 17 * G) (by simp [hlen])
  have f2 := hT4.cell (j := 3 + 17 * G + 1) (by simp [hlen])
  have e71 : (T ++ [71, 72]).getD (3 + 17 * G) 0 = 71 := by rw [← hlen]; simp [List.getD]
  have e72 : (T ++ [71, 72]).getD (3 + 17 * G + 1) 0 = 72 := by rw [← hlen]; simp [List.getD]
  rw [e71] at f1
  rw [e72] at f2
  clear hE11 hT4 e71 e72
  have hnAB : nA = nB := HRA.out.1.symm.trans HRB.out.1
  subst hnAB
  have K := sameWords_true aA aB nA cA cB (O1.getD []) w11 (HRA.out.wd.keep0 ((HE56.out.trans HE67.out).trans ((HE78.out.trans HE89.out).trans (HE90.out.trans HE011.out)))) (HRB.out.wd.keep0 (HE67.out.trans ((HE78.out.trans HE89.out).trans (HE90.out.trans HE011.out)))) HRA.out.1 (by omega)

  gi_wp2_with fail
  clear f1 f2 hlz
  refine (callsIn_wide.2 K).mono ?_
  clear K
  rintro e w12 ⟨rfl, hE12⟩
  have HE112 := hid hE12
  have HX12 := hid (HX11.out.trans hE12)
  have HE412 := hid (HE411.out.trans hE12)
  clear hE12
  obtain ⟨o2, o3⟩ := Ho.out w12 HX12.out
  have K := found_any (some ⟨g0, 0, none⟩) c0 T G oh HSd.out hoh w12 (HT2.out.wd.keep0 (HE4.out.trans HE412.out)) (HTb0.out.keep0 HX12.out)
  have hml : (fnd T oh G).length ≤ 8 * G := by unfold fnd; rw [List.length_map]; exact mts_len HSd.out.shp.gp
  have hel := ents_len T G
  have hfl := flat2_len (ents T G)
  have HK15 := hid (fun u (hu : Ext [] w12 u) => pairs_any (some ⟨g0, 0, none⟩) c0 T G HSd.out u ((HT2.out.wd.keep0 (HE4.out.trans HE412.out)).keep0 hu) ((HTb0.out.keep0 HX12.out).keep0 hu))
  generalize hLW : fnd T oh G = LW at *
  generalize hLP : flat2 (ents T G) = LP at *
  have HFl := hid hfl
  have HLW := hid hLW
  have HLP := hid hLP
  clear hfl hLW hLP
  gi_wp2_with fail
  refine (callsIn_wide.2 K).mono ?_
  clear K o2 o3
  rintro e w13 ⟨vW, rfl, hoW, hE13⟩
  obtain ⟨aW, cW, rfl, _⟩ := own_slice hoW
  have HOW := hid hoW
  have HE123 := hid hE13
  have HX13 := hid (HX12.out.trans hE13)
  have HE413 := hid (HE412.out.trans hE13)
  clear hoW hE13
  gi_wp2_with fail
  obtain ⟨zW, hzW⟩ : ∃ zW, w13.heap.size = zW := ⟨_, rfl⟩
  obtain ⟨V13, hV13⟩ : ∃ V13, w13.alloc (.cells #[.slice aW LW.length cW] 22) = V13 := ⟨_, rfl⟩
  have hE13b : Ext [] w13 V13 := by rw [← hV13]; exact Ext.alloc [] _ _
  have bW : Boxed V13 zW 22 (.slice aW LW.length cW) := by rw [← hV13, ← hzW]; exact Boxed.new w13 22 _
  have HE13b := hid hE13b
  have HBW := hid bW
  have HzW := hid hzW
  have K := HK15.out V13 (HE123.out.trans hE13b)
  rw [hV13]
  try simp only [hzW]
  clear hE13b bW hV13 hzW HK15
  refine (callsIn_wide.2 K).mono ?_
  clear K
  rintro e w14 ⟨vP, rfl, hoP, hE14⟩
  obtain ⟨aP, cP, rfl, _⟩ := own_slice hoP
  have HOP := hid hoP
  have HE134 := hid hE14
  clear hoP hE14
  gi_wp2_with fail
  obtain ⟨zP, hzP⟩ : ∃ zP, w14.heap.size = zP := ⟨_, rfl⟩
  obtain ⟨V14, hV14⟩ : ∃ V14, w14.alloc (.cells #[.slice aP LP.length cP] 22) = V14 := ⟨_, rfl⟩
  have hE14b : Ext [] w14 V14 := by rw [← hV14]; exact Ext.alloc [] _ _
  have bP : Boxed V14 zP 22 (.slice aP LP.length cP) := by rw [← hV14, ← hzP]; exact Boxed.new w14 22 _
  have HE14b := hid hE14b
  have HBP := hid bP
  have HzP := hid hzP
  rw [hV14]
  try simp only [hzP]
  clear hE14b bP hV14 hzP
  have HX14 := hid (((HX13.out.trans HE13b.out).trans HE134.out).trans HE14b.out)
  have HE414 := hid (((HE413.out.trans HE13b.out).trans HE134.out).trans HE14b.out)
  have HTz := hid (HT4.out.keep0 HE414.out)
  have hgS : g4 < V14.heap.size := HTz.out.lt
  have hg4l : g4 < w4.heap.size := HT4.out.lt
  clear HT4
  gi_loopw [28] (fun u wr => ∃ i : Nat, u = .int .i64 i ∧ i ≤ 3 + 17 * G ∧ (∃ Tz, Tz.length = 3 + 17 * G + 2 ∧ Tw c4 wr g4 Tz) ∧ Ext [g4] V14 wr) (fun u _ => (3 + 17 * G - (intOf u)).toNat)
  case atStart => exact ⟨0, rfl, Nat.zero_le _, ⟨_, by simp [hlen], HTz.out⟩, Ext.refl _ _⟩
  case round =>
    obtain ⟨i, rfl, hi, ⟨Tz, hTl, hTz⟩, hEz⟩ := hrel
    have HTl := hid hTl
    have HTZ := hid hTz
    have HEz := hid hEz
    clear hTl hTz hEz HTz
    by_cases hlt : i < 3 + 17 * G
    · have c1 := HTZ.out.cell (j := i) (by have := HTl.out; omega)
      have f1 := HTZ.out.frozen i
      have HT1 := hid (HTZ.out.set i 5 (by have := HTl.out; omega))
      have HX1 := hid (HEz.out.trans (Ext.setCell [g4] wr ⟨g4, i, none⟩ (.int .u64 (5 : Nat)) (by simp)))
      generalize Tz.getD i 0 = q at *
      have hib : (i : Int) ≤ 100000 := by omega
      gi_wp2_with fail
      go_roundw
      case rel => exact ⟨i + 1, by go_num, by omega, ⟨_, by rw [List.length_set]; exact HTl.out, HT1.out⟩, HX1.out⟩
      case measure => simp [intOf]; omega
    · have hiN : ¬ (i : Int) < 3 + 17 * (G : Int) := by omega
      have hiD : decide ((i : Int) < 3 + 17 * (G : Int)) = false := by simpa using hiN
      have s48 := HE48.out.size
      have s49 := HE49.out.size
      have s410 := HE410.out.size
      have s412 := HE412.out.size
      have s413 := HE413.out.size
      have s413b := HE13b.out.size
      have s134 := HE134.out.size
      have s414 := HE14b.out.size
      have sHg := HG4.out
      have sH2 := HE2.out.size
      have hzW := HzW.out
      have hzP := HzP.out
      have hBnl := HBg.out
      have hBtl := HBt.out
      have hgBl := HGB.out
      have X10 : Ext [] w10 V14 := (((HE011.out.trans HE112.out).trans HE123.out).trans ((HE13b.out.trans HE134.out).trans HE14b.out))
      have X9 : Ext [] w9 V14 := HE90.out.trans X10
      have X8 : Ext [] w8 V14 := HE89.out.trans X9
      have X7 : Ext [] w7 V14 := HE78.out.trans X8
      have X6 : Ext [] w6 V14 := HE67.out.trans X7
      have X5 : Ext [] w5 V14 := HE56.out.trans X6
      have X13 : Ext [] V13 V14 := HE134.out.trans HE14b.out
      have HF1 := hid (show Boxed wr (z + 1) 3 (.int .i64 y) from HEz.out.keep (HX14.out.keep Hb1.out (by simp)) (by simp; have := HS0.out; omega))
      have HF2 := hid (show Boxed wr (z + 2) 4 (.bool false) from HEz.out.keep (HX14.out.keep Hb2.out (by simp)) (by simp; have := HS0.out; omega))
      have HFW := hid (show Boxed wr zW 22 (.slice aW LW.length cW) from HEz.out.keep (X13.keep HBW.out (by simp)) (by simp; omega))
      have HFP := hid (show Boxed wr zP 22 (.slice aP LP.length cP) from HEz.out.keep HBP.out (by simp; omega))
      have HFB := hid (show Boxed wr Bn 22 vi from HEz.out.keep (X9.keep HBN.out (by simp)) (by simp; omega))
      have HFT := hid (show Boxed wr Bt 22 (.slice (some ⟨gB, 0, none⟩) (3 + 17 * G) cB2) from HEz.out.keep (X10.keep HBT.out (by simp)) (by simp; omega))
      have HTB' := hid ((HTB.out.keep0 X10).keep HEz.out (by simp; omega))
      have HLi := hid (show Vl.Lst wr vi LW from own_base (own_keep (own_keep0 HON.out X9) HEz.out (fun b hb hv => by have := (own_lt HON.out b hv).1; simp at hb; omega)) (Nat.zero_le _))
      have HLw := hid (own_vs (own_keep (own_keep0 HOW.out ((HE13b.out.trans HE134.out).trans HE14b.out)) HEz.out (fun b hb hv => by have := (own_lt HOW.out b hv).1; simp at hb; omega)))
      have HLq := hid (own_vs (own_keep (own_keep0 HOP.out HE14b.out) HEz.out (fun b hb hv => by have := (own_lt HOP.out b hv).1; simp at hb; omega)))
      have HR1 := hid ((HRA.out.keep0 X5).keep HEz.out (fun b hb => by simp at hb; omega))
      have HR2 := hid ((HRB.out.keep0 X6).keep HEz.out (fun b hb => by simp at hb; have := HE45.out.size; omega))
      have HR3 := hid ((HRC.out.keep0 X7).keep HEz.out (fun b hb => by simp at hb; have := HE46.out.size; omega))
      have HR4 := hid ((HRD.out.keep0 X8).keep HEz.out (fun b hb => by simp at hb; have := HE47.out.size; omega))
      have HTbz := hid (show Tb wr from (Kt.of_ext HEz.out (by simp; have := HTb0.out.lt; omega)).tb (HTb0.out.keep0 HX14.out))
      have HXz := hid (show Ext [] w wr from (HE0.out.trans HX14.out).on HEz.out (by simp; have := HE0.out.size; omega))
      gi_wp2_with fail
      obtain ⟨Wz, hWz⟩ : ∃ Wz, Wz = wr := ⟨_, rfl⟩
      subst hWz
      refine wpIn_loop_two (fun r act W => (∃ (u30' u31' u154' u155' u156' u157' u158' u177' u210' u211' u212' u213' u214' u215' u216' u217' u218' u219' u220' u221' u222' u223' u224' u225' u226' u227' u228' u229' u230' : Value) (Ds : List Nat), act = { tmps := #[.int .i64 x, .slice a n c, .agg #[.int .i64 ok, .int .i64 og, .int .u64 (oh : Nat), .int .u64 (od : Nat)], .int .i64 y, undef, undef, .pointer (some ⟨z, 0, none⟩), .pointer (some ⟨z + 1, 0, none⟩), .pointer (some ⟨z + 2, 0, none⟩), .slice (some ⟨g0, 0, none⟩) (3 + 17 * G) c0, .slice (some ⟨g4, 0, none⟩) (3 + 17 * G + 2) c4, .slice (some ⟨g4, 0, none⟩) (3 + 17 * G) c4, .slice aA nA cA, .int .i64 eA, .slice aB nA cB, .int .i64 eB, .slice aC nC cC, .int .i64 eC, .slice aD nD cD, .int .i64 eD, .func (.func 81) #[] #[.pointer (some ⟨Bn, 0, none⟩)], .int .i64 0, .func (.func 78) #[] #[.pointer (some ⟨Bt, 0, none⟩)], .int .i64 0, .pointer (some ⟨zW, 0, none⟩), .bool true, .pointer (some ⟨zP, 0, none⟩), .bool true, .int .i64 (i : Nat), .int .i64 (r : Nat), u30', u31', undef, undef, undef, undef, .int .i64 x, .slice a n c, .slice (some ⟨g0, 0, none⟩) (3 + 17 * G) c0, .bool true, .bool false, .bool false, .slice (some ⟨g0, 0, none⟩) (3 + 17 * G) c0, .int .i64 (3 + 17 * (G : Nat)), .bool false, .bool false, .slice (some ⟨g0, 0, none⟩) (3 + 17 * G) c0, .slice a3 (3 + 17 * G) c3, .slice (some ⟨w3.heap.size, 0, none⟩) 2 2, .slice (some ⟨g4, 0, none⟩) (3 + 17 * G + 2) c4, .slice (some ⟨g4, 0, none⟩) (3 + 17 * G + 2) c4, .slice (some ⟨g0, 0, none⟩) (3 + 17 * G) c0, .int .i64 (3 + 17 * (G : Nat)), .slice (some ⟨g4, 0, none⟩) (3 + 17 * G) c4, .tuple #[.slice aA nA cA, .int .i64 eA], .slice (some ⟨g4, 0, none⟩) (3 + 17 * G) c4, .pointer (some ⟨z, 2, none⟩), .int .u64 (oh : Nat), .pointer (some ⟨z, 3, none⟩), .int .u64 (od : Nat), .tuple #[.slice aA nA cA, .int .i64 eA], .slice aA nA cA, .int .i64 eA, .tuple #[.slice aB nA cB, .int .i64 eB], .slice (some ⟨g4, 0, none⟩) (3 + 17 * G) c4, .pointer (some ⟨z, 2, none⟩), .int .u64 (oh : Nat), .pointer (some ⟨z, 3, none⟩), .int .u64 (od : Nat), .tuple #[.slice aB nA cB, .int .i64 eB], .slice aB nA cB, .int .i64 eB, .tuple #[.slice aC nC cC, .int .i64 eC], .slice (some ⟨g4, 0, none⟩) (3 + 17 * G) c4, .tuple #[.slice aC nC cC, .int .i64 eC], .slice aC nC cC, .int .i64 eC, .tuple #[.slice aD nD cD, .int .i64 eD], .slice (some ⟨g4, 0, none⟩) (3 + 17 * G) c4, .pointer (some ⟨z, 2, none⟩), .int .u64 (oh : Nat), .pointer (some ⟨z, 3, none⟩), .int .u64 (od : Nat), .tuple #[.slice aD nD cD, .int .i64 eD], .slice aD nD cD, .int .i64 eD, .tuple #[.func (.func 81) #[] #[.pointer (some ⟨Bn, 0, none⟩)], .int .i64 0], .slice (some ⟨g4, 0, none⟩) (3 + 17 * G) c4, .pointer (some ⟨z, 2, none⟩), .int .u64 (oh : Nat), .tuple #[.func (.func 81) #[] #[.pointer (some ⟨Bn, 0, none⟩)], .int .i64 0], .func (.func 81) #[] #[.pointer (some ⟨Bn, 0, none⟩)], .int .i64 0, .tuple #[.func (.func 78) #[] #[.pointer (some ⟨Bt, 0, none⟩)], .int .i64 0], .slice (some ⟨g4, 0, none⟩) (3 + 17 * G) c4, .tuple #[.func (.func 78) #[] #[.pointer (some ⟨Bt, 0, none⟩)], .int .i64 0], .func (.func 78) #[] #[.pointer (some ⟨Bt, 0, none⟩)], .int .i64 0, .func (.func 81) #[] #[.pointer (some ⟨Bn, 0, none⟩)], .bool false, .bool false, .func (.func 78) #[] #[.pointer (some ⟨Bt, 0, none⟩)], .bool false, .bool false, .bool false, .slice (some ⟨g4, 0, none⟩) (3 + 17 * G) c4, .slice (some ⟨g0, 0, none⟩) (3 + 17 * G) c0, .bool true, .bool false, .bool false, .bool false, .slice (some ⟨g4, 0, none⟩) (3 + 17 * G + 2) c4, .slice (some ⟨g0, 0, none⟩) (3 + 17 * G) c0, .int .i64 (3 + 17 * (G : Nat)), .pointer (some ⟨g4, 3 + 17 * G, none⟩), .int .u64 71, .bool false, .bool false, .bool false, .slice (some ⟨g4, 0, none⟩) (3 + 17 * G + 2) c4, .slice (some ⟨g0, 0, none⟩) (3 + 17 * G) c0, .int .i64 (3 + 17 * (G : Nat)), .int .i64 (3 + 17 * (G : Nat) + 1), .pointer (some ⟨g4, 3 + 17 * G + 1, none⟩), .int .u64 72, .bool false, .bool false, .bool false, .slice aA nA cA, .slice aB nA cB, .bool true, .bool false, .bool false, .tuple #[.slice aW LW.length cW, .bool true], .slice (some ⟨g0, 0, none⟩) (3 + 17 * G) c0, .pointer (some ⟨z, 2, none⟩), .int .u64 (oh : Nat), .tuple #[.slice aW LW.length cW, .bool true], .slice aW LW.length cW, .bool true, .tuple #[.slice aP LP.length cP, .bool true], .slice (some ⟨g0, 0, none⟩) (3 + 17 * G) c0, .tuple #[.slice aP LP.length cP, .bool true], .slice aP LP.length cP, .bool true, .int .i64 (i : Nat), .slice (some ⟨g4, 0, none⟩) (3 + 17 * G) c4, .int .i64 (3 + 17 * (G : Nat)), .bool false, u149, u150, u151, u152, u153, u154', u155', u156', u157', u158', undef, undef, undef, undef, undef, undef, undef, undef, undef, undef, undef, undef, undef, undef, undef, undef, undef, undef, u177', undef, undef, undef, undef, undef, undef, undef, undef, undef, undef, undef, undef, undef, undef, undef, undef, undef, undef, undef, undef, undef, undef, undef, undef, undef, undef, undef, undef, undef, undef, undef, undef, u210', u211', u212', u213', u214', u215', u216', u217', u218', u219', u220', u221', u222', u223', u224', u225', u226', u227', u228', u229', u230', undef, undef, undef, undef, undef, undef, undef, undef, undef, undef, undef, undef, undef, undef, undef, undef, undef, undef, undef, undef, undef, undef, undef], defers := Ds.map mk } ∧ Ext [] Wz W ∧ Marks Ds W ∧ Ds.Nodup ∧ ∀ D ∈ Ds, D < W.heap.size ∧ Wz.heap.size ≤ D)) ?start ?step ?fin
      case start =>
        exact ⟨_, _, _, _, _, _, _, _, _, _, _, _, _, _, _, _, _, _, _, _, _, _, _, _, _, _, _, _, _, [], rfl, Ext.refl _ _, (fun D hD => by simp at hD), List.nodup_nil, (fun D hD => by simp at hD)⟩
      case step =>
        rintro r act wr hr2 ⟨u30', u31', u154', u155', u156', u157', u158', u177', u210', u211', u212', u213', u214', u215', u216', u217', u218', u219', u220', u221', u222', u223', u224', u225', u226', u227', u228', u229', u230', Ds, rfl, hE, hM, hN, hDl⟩
        have HQr := hid hE
        have HMr := hid hM
        have HNr := hid hN
        have HDl := hid hDl
        have hzr : Wz.heap.size ≤ wr.heap.size := hE.size
        clear hE hM hN hDl
        have hrr : (r : Int) < 2 := by omega
        gi_wp2_with fail
        obtain ⟨zn, hzn⟩ : ∃ zn, wr.heap.size = zn := ⟨_, rfl⟩
        obtain ⟨zk, hzk⟩ : ∃ zk, zk = zn + 1 := ⟨_, rfl⟩
        obtain ⟨V0, hV0⟩ : ∃ V0, (wr.alloc (.cells #[.int .i64 0] 3)).alloc (.cells #[.int .i64 0] 3) = V0 := ⟨_, rfl⟩
        have hEv : Ext [] wr V0 := by rw [← hV0]; exact (Ext.alloc [] _ _).trans (Ext.alloc [] _ _)
        have bN : Boxed V0 zn 3 (.int .i64 0) := by rw [← hV0, ← hzn]; exact (Boxed.new wr 3 _).alloc _
        have bK : Boxed V0 zk 3 (.int .i64 0) := by
          have := Boxed.new (wr.alloc (.cells #[.int .i64 0] 3)) 3 (.int .i64 0)
          rw [hV0, World.size_alloc, hzn, ← hzk] at this; exact this
        have hsz : V0.heap.size = zk + 1 := by rw [← hV0]; simp [hzn, hzk]
        have hQ0 := HQr.out.trans hEv
        have hM0 : Marks Ds V0 := HMr.out.keep0 hEv
        rw [hV0]
        simp only [hzn]
        rw [← hzk]
        have hDz : ∀ D ∈ Ds, D < zn ∧ Wz.heap.size ≤ D := fun D hD => by have := HDl.out D hD; omega
        have HDz := hid hDz
        rw [hzn] at hzr
        have hk1 : zn < zk := by omega
        have hk2 : zk < zn + 2 := by omega
        clear hV0 hEv hzn hDz HDl hzk
        have hBl := HFB.out.lt
        have hVl : ∀ g, vi.ownBlock = some g → g < Wz.heap.size := fun g hg => HLi.out.lt g hg
        have HVl := hid hVl
        have HQ0 := hid hQ0
        clear hVl
        refine Code.wpIn_mono (Q := fun e a2 w2 => (e = Exit.normal ∨ e = Exit.exit 4) ∧ ∃ (D nv : Nat), a2 = { tmps := #[.int .i64 x, .slice a n c, .agg #[.int .i64 ok, .int .i64 og, .int .u64 (oh : Nat), .int .u64 (od : Nat)], .int .i64 y, undef, undef, .pointer (some ⟨z, 0, none⟩), .pointer (some ⟨z + 1, 0, none⟩), .pointer (some ⟨z + 2, 0, none⟩), .slice (some ⟨g0, 0, none⟩) (3 + 17 * G) c0, .slice (some ⟨g4, 0, none⟩) (3 + 17 * G + 2) c4, .slice (some ⟨g4, 0, none⟩) (3 + 17 * G) c4, .slice aA nA cA, .int .i64 eA, .slice aB nA cB, .int .i64 eB, .slice aC nC cC, .int .i64 eC, .slice aD nD cD, .int .i64 eD, .func (.func 81) #[] #[.pointer (some ⟨Bn, 0, none⟩)], .int .i64 0, .func (.func 78) #[] #[.pointer (some ⟨Bt, 0, none⟩)], .int .i64 0, .pointer (some ⟨zW, 0, none⟩), .bool true, .pointer (some ⟨zP, 0, none⟩), .bool true, .int .i64 (i : Nat), .int .i64 (r : Nat), .pointer (some ⟨zn, 0, none⟩), .pointer (some ⟨zk, 0, none⟩), undef, undef, undef, undef, .int .i64 x, .slice a n c, .slice (some ⟨g0, 0, none⟩) (3 + 17 * G) c0, .bool true, .bool false, .bool false, .slice (some ⟨g0, 0, none⟩) (3 + 17 * G) c0, .int .i64 (3 + 17 * (G : Nat)), .bool false, .bool false, .slice (some ⟨g0, 0, none⟩) (3 + 17 * G) c0, .slice a3 (3 + 17 * G) c3, .slice (some ⟨w3.heap.size, 0, none⟩) 2 2, .slice (some ⟨g4, 0, none⟩) (3 + 17 * G + 2) c4, .slice (some ⟨g4, 0, none⟩) (3 + 17 * G + 2) c4, .slice (some ⟨g0, 0, none⟩) (3 + 17 * G) c0, .int .i64 (3 + 17 * (G : Nat)), .slice (some ⟨g4, 0, none⟩) (3 + 17 * G) c4, .tuple #[.slice aA nA cA, .int .i64 eA], .slice (some ⟨g4, 0, none⟩) (3 + 17 * G) c4, .pointer (some ⟨z, 2, none⟩), .int .u64 (oh : Nat), .pointer (some ⟨z, 3, none⟩), .int .u64 (od : Nat), .tuple #[.slice aA nA cA, .int .i64 eA], .slice aA nA cA, .int .i64 eA, .tuple #[.slice aB nA cB, .int .i64 eB], .slice (some ⟨g4, 0, none⟩) (3 + 17 * G) c4, .pointer (some ⟨z, 2, none⟩), .int .u64 (oh : Nat), .pointer (some ⟨z, 3, none⟩), .int .u64 (od : Nat), .tuple #[.slice aB nA cB, .int .i64 eB], .slice aB nA cB, .int .i64 eB, .tuple #[.slice aC nC cC, .int .i64 eC], .slice (some ⟨g4, 0, none⟩) (3 + 17 * G) c4, .tuple #[.slice aC nC cC, .int .i64 eC], .slice aC nC cC, .int .i64 eC, .tuple #[.slice aD nD cD, .int .i64 eD], .slice (some ⟨g4, 0, none⟩) (3 + 17 * G) c4, .pointer (some ⟨z, 2, none⟩), .int .u64 (oh : Nat), .pointer (some ⟨z, 3, none⟩), .int .u64 (od : Nat), .tuple #[.slice aD nD cD, .int .i64 eD], .slice aD nD cD, .int .i64 eD, .tuple #[.func (.func 81) #[] #[.pointer (some ⟨Bn, 0, none⟩)], .int .i64 0], .slice (some ⟨g4, 0, none⟩) (3 + 17 * G) c4, .pointer (some ⟨z, 2, none⟩), .int .u64 (oh : Nat), .tuple #[.func (.func 81) #[] #[.pointer (some ⟨Bn, 0, none⟩)], .int .i64 0], .func (.func 81) #[] #[.pointer (some ⟨Bn, 0, none⟩)], .int .i64 0, .tuple #[.func (.func 78) #[] #[.pointer (some ⟨Bt, 0, none⟩)], .int .i64 0], .slice (some ⟨g4, 0, none⟩) (3 + 17 * G) c4, .tuple #[.func (.func 78) #[] #[.pointer (some ⟨Bt, 0, none⟩)], .int .i64 0], .func (.func 78) #[] #[.pointer (some ⟨Bt, 0, none⟩)], .int .i64 0, .func (.func 81) #[] #[.pointer (some ⟨Bn, 0, none⟩)], .bool false, .bool false, .func (.func 78) #[] #[.pointer (some ⟨Bt, 0, none⟩)], .bool false, .bool false, .bool false, .slice (some ⟨g4, 0, none⟩) (3 + 17 * G) c4, .slice (some ⟨g0, 0, none⟩) (3 + 17 * G) c0, .bool true, .bool false, .bool false, .bool false, .slice (some ⟨g4, 0, none⟩) (3 + 17 * G + 2) c4, .slice (some ⟨g0, 0, none⟩) (3 + 17 * G) c0, .int .i64 (3 + 17 * (G : Nat)), .pointer (some ⟨g4, 3 + 17 * G, none⟩), .int .u64 71, .bool false, .bool false, .bool false, .slice (some ⟨g4, 0, none⟩) (3 + 17 * G + 2) c4, .slice (some ⟨g0, 0, none⟩) (3 + 17 * G) c0, .int .i64 (3 + 17 * (G : Nat)), .int .i64 (3 + 17 * (G : Nat) + 1), .pointer (some ⟨g4, 3 + 17 * G + 1, none⟩), .int .u64 72, .bool false, .bool false, .bool false, .slice aA nA cA, .slice aB nA cB, .bool true, .bool false, .bool false, .tuple #[.slice aW LW.length cW, .bool true], .slice (some ⟨g0, 0, none⟩) (3 + 17 * G) c0, .pointer (some ⟨z, 2, none⟩), .int .u64 (oh : Nat), .tuple #[.slice aW LW.length cW, .bool true], .slice aW LW.length cW, .bool true, .tuple #[.slice aP LP.length cP, .bool true], .slice (some ⟨g0, 0, none⟩) (3 + 17 * G) c0, .tuple #[.slice aP LP.length cP, .bool true], .slice aP LP.length cP, .bool true, .int .i64 (i : Nat), .slice (some ⟨g4, 0, none⟩) (3 + 17 * G) c4, .int .i64 (3 + 17 * (G : Nat)), .bool false, u149, u150, u151, u152, u153, .int .i64 (r : Nat), .bool true, u156', u157', .func (.func 81) #[] #[.pointer (some ⟨Bn, 0, none⟩)], undef, undef, undef, undef, undef, undef, undef, undef, undef, undef, undef, undef, undef, undef, undef, undef, undef, undef, u177', undef, undef, undef, undef, undef, undef, undef, undef, undef, undef, undef, undef, undef, undef, undef, undef, undef, undef, undef, undef, undef, undef, undef, undef, undef, undef, undef, undef, undef, undef, undef, undef, u210', u211', u212', u213', u214', u215', u216', u217', u218', u219', u220', u221', u222', u223', u224', u225', u226', u227', u228', u229', u230', undef, undef, undef, undef, undef, undef, undef, undef, undef, undef, undef, undef, undef, undef, undef, undef, undef, undef, undef, undef, undef, undef, undef], defers := (D :: Ds).map mk } ∧ (Ext [] Wz w2 ∧ Boxed w2 zn 3 (.int .i64 nv) ∧ Boxed w2 zk 3 (.int .i64 0)) ∧ Marks (D :: Ds) w2 ∧ (D :: Ds).Nodup ∧ (∀ D' ∈ (D :: Ds), D' < w2.heap.size ∧ Wz.heap.size ≤ D' ∧ D' ≠ zn ∧ D' ≠ zk) ∧ nv ≤ LW.length ∧ ((nv : Int) = LW.length ∨ (nv : Int) = y)) ?rest ?range
        case range =>
          refine wpIn_rangeFunc_ownH rfl (by omega) (gf := 81) (lb := #[.pointer (some ⟨Bn, 0, none⟩)]) rfl trivial (enters_of Tryd.func81 (by kernel_rfl) rfl)
            (Vl.each_stops Fence.wide _ trivial rfl (by omega) Bn vi LW (by omega) V0 (hQ0.keep HFB.out (by simp)) (HLi.out.keep0 hQ0)) Vl.klK_t (Vl.klK_b (by omega) (fun g hg => by have := HVl.out g hg; omega)) (Below.refl _ _) (fun _ => rfl)
            (fun pre W => (((Ext [] Wz W ∧ Boxed W zn 3 (.int .i64 (pre.length : Nat))) ∧ Boxed W zk 3 (.int .i64 0)) ∧ Marks Ds W) ∧ Gd LW y pre)
            (fun cd pre W => ((((Ext [] Wz W ∧ Boxed W zn 3 (.int .i64 (pre.length : Nat))) ∧ Boxed W zk 3 (.int .i64 0)) ∧ Marks Ds W) ∧ (pre.length : Int) = y ∧ cd = .exit 4) ∨ (cd = .ret ∧ NotPre LW pre))
            (OwnFrom.and (OwnFrom.and (OwnFrom.and (OwnFrom.and (ext_own0 (by omega)) (Own.from (boxed_own zn 3 (fun pre : List Nat => .int .i64 (pre.length : Nat))) _)) (Own.from (boxed_own zk 3 (fun _ : List Nat => .int .i64 0)) _)) (marks_own (fun D hD => by have := (HDz.out D hD).1; omega))) (ownFrom_pure _ _))
            (fun cd pre X Y row hs hg hr => by
              rcases hs with ⟨⟨⟨⟨h1, h2⟩, h2b⟩, h3⟩, h4⟩ | h
              · exact .inl ⟨⟨⟨⟨ext_own0 (β := Unit) (B := V0.heap.size) (by omega) () X Y row h1 hg hr, boxed_own zn 3 (fun _ : Unit => .int .i64 (pre.length : Nat)) () X Y row h2 hg (fun r e => (hr r e).2)⟩, boxed_own zk 3 (fun _ : Unit => .int .i64 0) () X Y row h2b hg (fun r e => (hr r e).2)⟩, marks_own (β := Unit) (B := V0.heap.size) (fun D hD => by have := (HDz.out D hD).1; omega) () X Y row h3 hg hr⟩, h4⟩
              · exact .inr h)
            ⟨⟨⟨⟨hQ0, bN⟩, bK⟩, hM0⟩, gd_nil _ _⟩
            (fun x1 a' _ => a' = { tmps := #[.int .i64 x, .slice a n c, .agg #[.int .i64 ok, .int .i64 og, .int .u64 (oh : Nat), .int .u64 (od : Nat)], .int .i64 y, undef, undef, .pointer (some ⟨z, 0, none⟩), .pointer (some ⟨z + 1, 0, none⟩), .pointer (some ⟨z + 2, 0, none⟩), .slice (some ⟨g0, 0, none⟩) (3 + 17 * G) c0, .slice (some ⟨g4, 0, none⟩) (3 + 17 * G + 2) c4, .slice (some ⟨g4, 0, none⟩) (3 + 17 * G) c4, .slice aA nA cA, .int .i64 eA, .slice aB nA cB, .int .i64 eB, .slice aC nC cC, .int .i64 eC, .slice aD nD cD, .int .i64 eD, .func (.func 81) #[] #[.pointer (some ⟨Bn, 0, none⟩)], .int .i64 0, .func (.func 78) #[] #[.pointer (some ⟨Bt, 0, none⟩)], .int .i64 0, .pointer (some ⟨zW, 0, none⟩), .bool true, .pointer (some ⟨zP, 0, none⟩), .bool true, .int .i64 (i : Nat), .int .i64 (r : Nat), .pointer (some ⟨zn, 0, none⟩), .pointer (some ⟨zk, 0, none⟩), .int .u64 (x1 : Nat), undef, undef, undef, .int .i64 x, .slice a n c, .slice (some ⟨g0, 0, none⟩) (3 + 17 * G) c0, .bool true, .bool false, .bool false, .slice (some ⟨g0, 0, none⟩) (3 + 17 * G) c0, .int .i64 (3 + 17 * (G : Nat)), .bool false, .bool false, .slice (some ⟨g0, 0, none⟩) (3 + 17 * G) c0, .slice a3 (3 + 17 * G) c3, .slice (some ⟨w3.heap.size, 0, none⟩) 2 2, .slice (some ⟨g4, 0, none⟩) (3 + 17 * G + 2) c4, .slice (some ⟨g4, 0, none⟩) (3 + 17 * G + 2) c4, .slice (some ⟨g0, 0, none⟩) (3 + 17 * G) c0, .int .i64 (3 + 17 * (G : Nat)), .slice (some ⟨g4, 0, none⟩) (3 + 17 * G) c4, .tuple #[.slice aA nA cA, .int .i64 eA], .slice (some ⟨g4, 0, none⟩) (3 + 17 * G) c4, .pointer (some ⟨z, 2, none⟩), .int .u64 (oh : Nat), .pointer (some ⟨z, 3, none⟩), .int .u64 (od : Nat), .tuple #[.slice aA nA cA, .int .i64 eA], .slice aA nA cA, .int .i64 eA, .tuple #[.slice aB nA cB, .int .i64 eB], .slice (some ⟨g4, 0, none⟩) (3 + 17 * G) c4, .pointer (some ⟨z, 2, none⟩), .int .u64 (oh : Nat), .pointer (some ⟨z, 3, none⟩), .int .u64 (od : Nat), .tuple #[.slice aB nA cB, .int .i64 eB], .slice aB nA cB, .int .i64 eB, .tuple #[.slice aC nC cC, .int .i64 eC], .slice (some ⟨g4, 0, none⟩) (3 + 17 * G) c4, .tuple #[.slice aC nC cC, .int .i64 eC], .slice aC nC cC, .int .i64 eC, .tuple #[.slice aD nD cD, .int .i64 eD], .slice (some ⟨g4, 0, none⟩) (3 + 17 * G) c4, .pointer (some ⟨z, 2, none⟩), .int .u64 (oh : Nat), .pointer (some ⟨z, 3, none⟩), .int .u64 (od : Nat), .tuple #[.slice aD nD cD, .int .i64 eD], .slice aD nD cD, .int .i64 eD, .tuple #[.func (.func 81) #[] #[.pointer (some ⟨Bn, 0, none⟩)], .int .i64 0], .slice (some ⟨g4, 0, none⟩) (3 + 17 * G) c4, .pointer (some ⟨z, 2, none⟩), .int .u64 (oh : Nat), .tuple #[.func (.func 81) #[] #[.pointer (some ⟨Bn, 0, none⟩)], .int .i64 0], .func (.func 81) #[] #[.pointer (some ⟨Bn, 0, none⟩)], .int .i64 0, .tuple #[.func (.func 78) #[] #[.pointer (some ⟨Bt, 0, none⟩)], .int .i64 0], .slice (some ⟨g4, 0, none⟩) (3 + 17 * G) c4, .tuple #[.func (.func 78) #[] #[.pointer (some ⟨Bt, 0, none⟩)], .int .i64 0], .func (.func 78) #[] #[.pointer (some ⟨Bt, 0, none⟩)], .int .i64 0, .func (.func 81) #[] #[.pointer (some ⟨Bn, 0, none⟩)], .bool false, .bool false, .func (.func 78) #[] #[.pointer (some ⟨Bt, 0, none⟩)], .bool false, .bool false, .bool false, .slice (some ⟨g4, 0, none⟩) (3 + 17 * G) c4, .slice (some ⟨g0, 0, none⟩) (3 + 17 * G) c0, .bool true, .bool false, .bool false, .bool false, .slice (some ⟨g4, 0, none⟩) (3 + 17 * G + 2) c4, .slice (some ⟨g0, 0, none⟩) (3 + 17 * G) c0, .int .i64 (3 + 17 * (G : Nat)), .pointer (some ⟨g4, 3 + 17 * G, none⟩), .int .u64 71, .bool false, .bool false, .bool false, .slice (some ⟨g4, 0, none⟩) (3 + 17 * G + 2) c4, .slice (some ⟨g0, 0, none⟩) (3 + 17 * G) c0, .int .i64 (3 + 17 * (G : Nat)), .int .i64 (3 + 17 * (G : Nat) + 1), .pointer (some ⟨g4, 3 + 17 * G + 1, none⟩), .int .u64 72, .bool false, .bool false, .bool false, .slice aA nA cA, .slice aB nA cB, .bool true, .bool false, .bool false, .tuple #[.slice aW LW.length cW, .bool true], .slice (some ⟨g0, 0, none⟩) (3 + 17 * G) c0, .pointer (some ⟨z, 2, none⟩), .int .u64 (oh : Nat), .tuple #[.slice aW LW.length cW, .bool true], .slice aW LW.length cW, .bool true, .tuple #[.slice aP LP.length cP, .bool true], .slice (some ⟨g0, 0, none⟩) (3 + 17 * G) c0, .tuple #[.slice aP LP.length cP, .bool true], .slice aP LP.length cP, .bool true, .int .i64 (i : Nat), .slice (some ⟨g4, 0, none⟩) (3 + 17 * G) c4, .int .i64 (3 + 17 * (G : Nat)), .bool false, u149, u150, u151, u152, u153, .int .i64 (r : Nat), .bool true, u156', u157', .func (.func 81) #[] #[.pointer (some ⟨Bn, 0, none⟩)], .int .u64 (x1 : Nat), undef, undef, undef, undef, undef, undef, undef, undef, undef, undef, undef, undef, undef, undef, undef, undef, undef, u177', undef, undef, undef, undef, undef, undef, undef, undef, undef, undef, undef, undef, undef, undef, undef, undef, undef, undef, undef, undef, undef, undef, undef, undef, undef, undef, undef, undef, undef, undef, undef, undef, u210', u211', u212', u213', u214', u215', u216', u217', u218', u219', u220', u221', u222', u223', u224', u225', u226', u227', u228', u229', u230', undef, undef, undef, undef, undef, undef, undef, undef, undef, undef, undef, undef, undef, undef, undef, undef, undef, undef, undef, undef, undef, undef, undef], defers := [] })
            (fun x1 a' _ X Y row hs hg hr => hs)
            ?assign ?body ?done ?stop
          case assign =>
            rintro l pre x1 W K hI hK
            have HI := hid hI
            clear hI
            gi_wp2
            exact hK _ _ (KeepsFrom.refl _ _) (Vl.Kl.refl _ _ _) HI.out rfl
          case body =>
            rintro l pre x1 a' W hl ⟨lr, hlr⟩ ⟨⟨⟨⟨hE, bN1⟩, bK1⟩, hM⟩, hG⟩ rfl hlt
            have cN := bN1.cell
            have fN := bN1.frozen
            have cW' := (show Boxed W zW 22 _ from hE.keep HFW.out (by simp)).cell
            have cC' := (show Boxed W (z + 1) 3 _ from hE.keep HF1.out (by simp)).cell
            have b8 := (show Boxed W (z + 2) 4 _ from hE.keep HF2.out (by simp))
            have c8 := b8.cell
            have f8 := b8.frozen
            obtain ⟨bw, ow, rfl, cwA⟩ := Wd.at_ (show Wd W aW LW from Vs.keep0 HLw.out hE) (by rintro rfl; simp at hlt)
            have cw := cwA pre.length hlt
            have hgd : LW[pre.length]? = some (LW.getD pre.length 0) := by simp [List.getD, hlt]
            have HPn : Hid (x1 ≠ LW.getD pre.length 0 → NotPre LW (pre ++ [x1])) := fun h => not_prefix (by rw [hgd]; simpa using fun e => h e.symm)
            have HPy : Hid (x1 = LW.getD pre.length 0 → ((pre.length : Int) + 1) ≠ y → Gd LW y (pre ++ [x1])) := fun h1 h2 => gd_snoc hG (by rw [hgd, h1]) h2
            have HPl : Hid ((pre ++ [x1]).length = pre.length + 1) := by show _ = _; simp
            have HQ1 := hid hE
            have HM1 := hid hM
            have HN1 := hid bN1
            have HK1 := hid bK1
            clear hlr hG hE hM bN1 bK1 b8 cwA hgd
            generalize hpk : pre.length = kk at *
            clear hpk
            generalize LW.getD kk 0 = yv at *
            generalize hll : LW.length = lo at *
            clear hll
            have hge : decide ((kk : Int) ≥ (lo : Int)) = false := by simp; omega
            have hge2 : ¬ (lo : Int) ≤ (kk : Int) := by omega
            by_cases hxy : x1 = yv
            · have HG2 := hid (HPy.out hxy)
              have hne : ((x1 : Int) != (yv : Int)) = false := by simp [hxy]
              have hkn : (kk : Int) + 1 < 100000 := by omega
              have hE7 : Ext [] Wz (W.setCell ⟨zn, 0, none⟩ (.int .i64 ((kk : Int) + 1))) := HQ1.out.on (Ext.setCell [zn] W ⟨zn, 0, none⟩ _ (by simp)) (by simpa using hzr)
              have HQ7 := hid hE7
              have HB7 := hid (HN1.out.set (.int .i64 ((kk : Int) + 1)))
              have HK7 := hid (show Boxed (W.setCell ⟨zn, 0, none⟩ (.int .i64 ((kk : Int) + 1))) zk 3 _ from (Ext.setCell [zn] W ⟨zn, 0, none⟩ _ (by simp)).keep HK1.out (by simp; omega))
              have cC7 : (W.setCell ⟨zn, 0, none⟩ (.int .i64 ((kk : Int) + 1))).cell? ⟨z + 1, 0, none⟩ = _ := (show Boxed _ (z + 1) 3 _ from hE7.keep HF1.out (by simp)).cell
              have cN7 := HB7.out.cell
              have HM7 := hid (HM1.out.ext ((KeepsOthers.setCell W ⟨zn, 0, none⟩ (.int .i64 ((kk : Int) + 1))).from _))
              clear HPn HPy hxy hE7
              by_cases hkc : (kk : Int) + 1 = y
              · have hkd : ((kk : Int) + 1 == y) = true := by simp [hkc]
                have HKC := hid hkc
                clear hkc
                gi_wp2_with fail
                exact ⟨(KeepsOthers.setCell _ _ _).from _, .inl ⟨⟨⟨⟨HQ7.out, by rw [HPl.out]; exact HB7.out⟩, HK7.out⟩, HM7.out⟩, by rw [HPl.out]; exact HKC.out, rfl⟩⟩
              · have hkd : ((kk : Int) + 1 == y) = false := by simp [hkc]
                have HKC := hid hkc
                clear hkc
                gi_wp2_with fail
                exact ⟨(KeepsOthers.setCell _ _ _).from _, kl_ext HQ1.out HQ7.out hBl HVl.out, ⟨⟨⟨HQ7.out, by rw [HPl.out]; exact HB7.out⟩, HK7.out⟩, HM7.out⟩, HG2.out HKC.out⟩
            · have HG2 := hid (HPn.out hxy)
              have hne : ((x1 : Int) != (yv : Int)) = true := by simp; omega
              clear HPn HPy hxy
              gi_wp2_with fail
              exact ⟨(KeepsOthers.setCell _ _ _).from _, .inr ⟨rfl, HG2.out⟩⟩
          case done =>
            rintro D ys W hD rfl ⟨⟨⟨⟨hE, bN1⟩, bK1⟩, hM⟩, hG⟩ hK
            refine ⟨.inl rfl, D, _, rfl, ⟨hE, bN1, bK1⟩, ?_, List.nodup_cons.2 ⟨fun h => by have := (HDz.out D h).1; omega, HNr.out⟩, ?_, Nat.le_refl _, .inl rfl⟩
            · intro D' h'
              rcases List.mem_cons.1 h' with rfl | h'
              · exact hK
              · exact hM D' h'
            · intro D' h'
              rcases List.mem_cons.1 h' with rfl | h'
              · exact ⟨lt_of_heap hK, by omega, by omega, by omega⟩
              · have := HDz.out D' h'
                exact ⟨lt_of_heap (hM D' h'), this.2, by omega, by omega⟩
          case stop =>
            rintro D cd pre W hD hSp h hK
            rcases h with ⟨⟨⟨⟨hE, bN1⟩, bK1⟩, hM⟩, hcut, rfl⟩ | ⟨rfl, hp⟩
            · refine wpIn_exit ?_
              refine ⟨.inr rfl, D, _, rfl, ⟨hE, bN1, bK1⟩, ?_, List.nodup_cons.2 ⟨fun h => by have := (HDz.out D h).1; omega, HNr.out⟩, ?_, List.IsPrefix.length_le hSp, .inr hcut⟩
              · intro D' h'
                rcases List.mem_cons.1 h' with rfl | h'
                · exact hK
                · exact hM D' h'
              · intro D' h'
                rcases List.mem_cons.1 h' with rfl | h'
                · exact ⟨lt_of_heap hK, by omega, by omega, by omega⟩
                · have := HDz.out D' h'
                  exact ⟨lt_of_heap (hM D' h'), this.2, by omega, by omega⟩
            · exact absurd hSp hp
        case rest =>
          rintro e a2 w2 ⟨he, D, nv, ha2, ⟨hE, bN1, bK1⟩, hM, hN, hDl, hnv, hnc⟩
          have hx : ∀ R : Exit → Act → World → Prop, R .normal a2 w2 → Exit.inBlock 4 R e a2 w2 := fun R h => by rcases he with rfl | rfl <;> exact h
          refine hx _ ?_
          clear hx he
          subst ha2
          have HE2 := hid hE
          have HN2 := hid bN1
          have HM2 := hid hM
          have HNn := hid hN
          have HD2 := hid hDl
          have HNV := hid hnv
          have HNC := hid hnc
          have hgE : Ext [] Wz w2 := hE
          have hlz2 := hE.size
          obtain ⟨cs, hcs, hcs2⟩ := HTB'.out.keep0 hE
          have HEnt := hid (entries_gives 15 (by omega) Bt gB 0 cB2 G T _ HSd.out.shp (Ob2 zk (z + 2)) w2 (hE.keep HFT.out (by simp)) hcs rfl (Go.Proofs.YtkknadkcpndnaaaDoor.Tw.wd ⟨cs, hcs, hcs2⟩) (HTbz.out.keep0 hE) (by
            have h1 := HFT.out.lt
            have h2 := HTB'.out.lt
            have h3 := HS0.out
            have h4 := HX10.out.size
            have h5 := HX9.out.size
            have h6 := HTb0.out.lt
            intro k hk q
            simp at hk
            rcases q with q | q <;> rcases hk with e | e | e <;> omega))
          have hbK0 : Boxed w2 zk 3 (.int .i64 (([] : List (Nat × Nat)).length : Nat)) := bK1
          have hlt2 : zk < w2.heap.size := bK1.lt
          have HI0 := hid (And.intro (And.intro (And.intro (And.intro hE bN1) hbK0) hM) (gd_nil (ents T G) y))
          have hzr2 : z + 2 < zk := by have := HF2.out.lt; omega
          clear hcs hcs2 hE bN1 bK1 hM hN hDl hnv hnc hbK0
          gi_wp2_with fail
          refine Code.wpIn_mono (Q := fun e b3 v3 => (e = Exit.normal ∨ e = Exit.exit 6) ∧ ∃ (E kv : Nat), b3 = { tmps := #[.int .i64 x, .slice a n c, .agg #[.int .i64 ok, .int .i64 og, .int .u64 (oh : Nat), .int .u64 (od : Nat)], .int .i64 y, undef, undef, .pointer (some ⟨z, 0, none⟩), .pointer (some ⟨z + 1, 0, none⟩), .pointer (some ⟨z + 2, 0, none⟩), .slice (some ⟨g0, 0, none⟩) (3 + 17 * G) c0, .slice (some ⟨g4, 0, none⟩) (3 + 17 * G + 2) c4, .slice (some ⟨g4, 0, none⟩) (3 + 17 * G) c4, .slice aA nA cA, .int .i64 eA, .slice aB nA cB, .int .i64 eB, .slice aC nC cC, .int .i64 eC, .slice aD nD cD, .int .i64 eD, .func (.func 81) #[] #[.pointer (some ⟨Bn, 0, none⟩)], .int .i64 0, .func (.func 78) #[] #[.pointer (some ⟨Bt, 0, none⟩)], .int .i64 0, .pointer (some ⟨zW, 0, none⟩), .bool true, .pointer (some ⟨zP, 0, none⟩), .bool true, .int .i64 (i : Nat), .int .i64 (r : Nat), .pointer (some ⟨zn, 0, none⟩), .pointer (some ⟨zk, 0, none⟩), undef, undef, undef, undef, .int .i64 x, .slice a n c, .slice (some ⟨g0, 0, none⟩) (3 + 17 * G) c0, .bool true, .bool false, .bool false, .slice (some ⟨g0, 0, none⟩) (3 + 17 * G) c0, .int .i64 (3 + 17 * (G : Nat)), .bool false, .bool false, .slice (some ⟨g0, 0, none⟩) (3 + 17 * G) c0, .slice a3 (3 + 17 * G) c3, .slice (some ⟨w3.heap.size, 0, none⟩) 2 2, .slice (some ⟨g4, 0, none⟩) (3 + 17 * G + 2) c4, .slice (some ⟨g4, 0, none⟩) (3 + 17 * G + 2) c4, .slice (some ⟨g0, 0, none⟩) (3 + 17 * G) c0, .int .i64 (3 + 17 * (G : Nat)), .slice (some ⟨g4, 0, none⟩) (3 + 17 * G) c4, .tuple #[.slice aA nA cA, .int .i64 eA], .slice (some ⟨g4, 0, none⟩) (3 + 17 * G) c4, .pointer (some ⟨z, 2, none⟩), .int .u64 (oh : Nat), .pointer (some ⟨z, 3, none⟩), .int .u64 (od : Nat), .tuple #[.slice aA nA cA, .int .i64 eA], .slice aA nA cA, .int .i64 eA, .tuple #[.slice aB nA cB, .int .i64 eB], .slice (some ⟨g4, 0, none⟩) (3 + 17 * G) c4, .pointer (some ⟨z, 2, none⟩), .int .u64 (oh : Nat), .pointer (some ⟨z, 3, none⟩), .int .u64 (od : Nat), .tuple #[.slice aB nA cB, .int .i64 eB], .slice aB nA cB, .int .i64 eB, .tuple #[.slice aC nC cC, .int .i64 eC], .slice (some ⟨g4, 0, none⟩) (3 + 17 * G) c4, .tuple #[.slice aC nC cC, .int .i64 eC], .slice aC nC cC, .int .i64 eC, .tuple #[.slice aD nD cD, .int .i64 eD], .slice (some ⟨g4, 0, none⟩) (3 + 17 * G) c4, .pointer (some ⟨z, 2, none⟩), .int .u64 (oh : Nat), .pointer (some ⟨z, 3, none⟩), .int .u64 (od : Nat), .tuple #[.slice aD nD cD, .int .i64 eD], .slice aD nD cD, .int .i64 eD, .tuple #[.func (.func 81) #[] #[.pointer (some ⟨Bn, 0, none⟩)], .int .i64 0], .slice (some ⟨g4, 0, none⟩) (3 + 17 * G) c4, .pointer (some ⟨z, 2, none⟩), .int .u64 (oh : Nat), .tuple #[.func (.func 81) #[] #[.pointer (some ⟨Bn, 0, none⟩)], .int .i64 0], .func (.func 81) #[] #[.pointer (some ⟨Bn, 0, none⟩)], .int .i64 0, .tuple #[.func (.func 78) #[] #[.pointer (some ⟨Bt, 0, none⟩)], .int .i64 0], .slice (some ⟨g4, 0, none⟩) (3 + 17 * G) c4, .tuple #[.func (.func 78) #[] #[.pointer (some ⟨Bt, 0, none⟩)], .int .i64 0], .func (.func 78) #[] #[.pointer (some ⟨Bt, 0, none⟩)], .int .i64 0, .func (.func 81) #[] #[.pointer (some ⟨Bn, 0, none⟩)], .bool false, .bool false, .func (.func 78) #[] #[.pointer (some ⟨Bt, 0, none⟩)], .bool false, .bool false, .bool false, .slice (some ⟨g4, 0, none⟩) (3 + 17 * G) c4, .slice (some ⟨g0, 0, none⟩) (3 + 17 * G) c0, .bool true, .bool false, .bool false, .bool false, .slice (some ⟨g4, 0, none⟩) (3 + 17 * G + 2) c4, .slice (some ⟨g0, 0, none⟩) (3 + 17 * G) c0, .int .i64 (3 + 17 * (G : Nat)), .pointer (some ⟨g4, 3 + 17 * G, none⟩), .int .u64 71, .bool false, .bool false, .bool false, .slice (some ⟨g4, 0, none⟩) (3 + 17 * G + 2) c4, .slice (some ⟨g0, 0, none⟩) (3 + 17 * G) c0, .int .i64 (3 + 17 * (G : Nat)), .int .i64 (3 + 17 * (G : Nat) + 1), .pointer (some ⟨g4, 3 + 17 * G + 1, none⟩), .int .u64 72, .bool false, .bool false, .bool false, .slice aA nA cA, .slice aB nA cB, .bool true, .bool false, .bool false, .tuple #[.slice aW LW.length cW, .bool true], .slice (some ⟨g0, 0, none⟩) (3 + 17 * G) c0, .pointer (some ⟨z, 2, none⟩), .int .u64 (oh : Nat), .tuple #[.slice aW LW.length cW, .bool true], .slice aW LW.length cW, .bool true, .tuple #[.slice aP LP.length cP, .bool true], .slice (some ⟨g0, 0, none⟩) (3 + 17 * G) c0, .tuple #[.slice aP LP.length cP, .bool true], .slice aP LP.length cP, .bool true, .int .i64 (i : Nat), .slice (some ⟨g4, 0, none⟩) (3 + 17 * G) c4, .int .i64 (3 + 17 * (G : Nat)), .bool false, u149, u150, u151, u152, u153, .int .i64 (r : Nat), .bool true, u156', u157', .func (.func 81) #[] #[.pointer (some ⟨Bn, 0, none⟩)], undef, undef, undef, undef, undef, undef, undef, undef, undef, undef, undef, undef, undef, undef, undef, undef, undef, undef, .func (.func 78) #[] #[.pointer (some ⟨Bt, 0, none⟩)], undef, undef, undef, undef, undef, undef, undef, undef, undef, undef, undef, undef, undef, undef, undef, undef, undef, undef, undef, undef, undef, undef, undef, undef, undef, undef, undef, undef, undef, undef, undef, undef, u210', u211', u212', u213', u214', u215', u216', u217', u218', u219', u220', u221', u222', u223', u224', u225', u226', u227', u228', u229', u230', undef, undef, undef, undef, undef, undef, undef, undef, undef, undef, undef, undef, undef, undef, undef, undef, undef, undef, undef, undef, undef, undef, undef], defers := (E :: D :: Ds).map mk } ∧ (Ext [] Wz v3 ∧ Boxed v3 zn 3 (.int .i64 nv) ∧ Boxed v3 zk 3 (.int .i64 kv)) ∧ Marks (E :: D :: Ds) v3 ∧ (E :: D :: Ds).Nodup ∧ (∀ D' ∈ (E :: D :: Ds), D' < v3.heap.size ∧ Wz.heap.size ≤ D') ∧ kv ≤ (ents T G).length ∧ (kv = (ents T G).length ∨ (kv : Int) = y)) ?rest2 ?range2
          case range2 =>
            refine loop_givesS rfl (by omega) (gf := 78) (lb := #[.pointer (some ⟨Bt, 0, none⟩)]) rfl trivial (enters_of Tryd.func78 (by kernel_rfl) rfl)
              HEnt.out (fun _ => rfl)
              (fun pre W => (((Ext [] Wz W ∧ Boxed W zn 3 (.int .i64 nv)) ∧ Boxed W zk 3 (.int .i64 (pre.length : Nat))) ∧ Marks (D :: Ds) W) ∧ Gd (ents T G) y pre)
              (fun cd pre W => ((((Ext [] Wz W ∧ Boxed W zn 3 (.int .i64 nv)) ∧ Boxed W zk 3 (.int .i64 (pre.length : Nat))) ∧ Marks (D :: Ds) W) ∧ (pre.length : Int) = y ∧ cd = .exit 6) ∨ (cd = .ret ∧ NotPre (ents T G) pre ∧ zk < W.heap.size))
              (cal_box (OwnFrom.and (OwnFrom.and (OwnFrom.and (OwnFrom.and (ext_own0 (by omega)) (Own.from (boxed_own zn 3 (fun _ : List (Nat × Nat) => .int .i64 nv)) _)) (Own.from (boxed_own zk 3 (fun pre : List (Nat × Nat) => .int .i64 (pre.length : Nat))) _)) (marks_own (fun D' hD => (HD2.out D' hD).1))) (ownFrom_pure _ _)) (fun s W h => h.1.1.2.lt) hzr2)
              (fun cd => cal_box (fun pre X Y row hs hg hr => by
                rcases hs with ⟨⟨⟨⟨h1, h2⟩, h2b⟩, h3⟩, h4⟩ | ⟨h1, h2, h3⟩
                · exact .inl ⟨⟨⟨⟨ext_own0 (β := Unit) (B := w2.heap.size) (by omega) () X Y row h1 hg hr, boxed_own zn 3 (fun _ : Unit => .int .i64 nv) () X Y row h2 hg (fun r e => (hr r e).2)⟩, boxed_own zk 3 (fun _ : Unit => .int .i64 (pre.length : Nat)) () X Y row h2b hg (fun r e => (hr r e).2)⟩, marks_own (β := Unit) (B := w2.heap.size) (fun D' hD => (HD2.out D' hD).1) () X Y row h3 hg hr⟩, h4⟩
                · exact .inr ⟨h1, h2, Nat.lt_of_lt_of_le h3 hg.size⟩) (fun s W h => by
                rcases h with h | h
                · exact h.1.1.2.lt
                · exact h.2.2) hzr2)
              HI0.out
              (fun x1 a' _ => a' = { tmps := #[.int .i64 x, .slice a n c, .agg #[.int .i64 ok, .int .i64 og, .int .u64 (oh : Nat), .int .u64 (od : Nat)], .int .i64 y, undef, undef, .pointer (some ⟨z, 0, none⟩), .pointer (some ⟨z + 1, 0, none⟩), .pointer (some ⟨z + 2, 0, none⟩), .slice (some ⟨g0, 0, none⟩) (3 + 17 * G) c0, .slice (some ⟨g4, 0, none⟩) (3 + 17 * G + 2) c4, .slice (some ⟨g4, 0, none⟩) (3 + 17 * G) c4, .slice aA nA cA, .int .i64 eA, .slice aB nA cB, .int .i64 eB, .slice aC nC cC, .int .i64 eC, .slice aD nD cD, .int .i64 eD, .func (.func 81) #[] #[.pointer (some ⟨Bn, 0, none⟩)], .int .i64 0, .func (.func 78) #[] #[.pointer (some ⟨Bt, 0, none⟩)], .int .i64 0, .pointer (some ⟨zW, 0, none⟩), .bool true, .pointer (some ⟨zP, 0, none⟩), .bool true, .int .i64 (i : Nat), .int .i64 (r : Nat), .pointer (some ⟨zn, 0, none⟩), .pointer (some ⟨zk, 0, none⟩), undef, .int .u64 (x1.1 : Nat), .int .u64 (x1.2 : Nat), undef, .int .i64 x, .slice a n c, .slice (some ⟨g0, 0, none⟩) (3 + 17 * G) c0, .bool true, .bool false, .bool false, .slice (some ⟨g0, 0, none⟩) (3 + 17 * G) c0, .int .i64 (3 + 17 * (G : Nat)), .bool false, .bool false, .slice (some ⟨g0, 0, none⟩) (3 + 17 * G) c0, .slice a3 (3 + 17 * G) c3, .slice (some ⟨w3.heap.size, 0, none⟩) 2 2, .slice (some ⟨g4, 0, none⟩) (3 + 17 * G + 2) c4, .slice (some ⟨g4, 0, none⟩) (3 + 17 * G + 2) c4, .slice (some ⟨g0, 0, none⟩) (3 + 17 * G) c0, .int .i64 (3 + 17 * (G : Nat)), .slice (some ⟨g4, 0, none⟩) (3 + 17 * G) c4, .tuple #[.slice aA nA cA, .int .i64 eA], .slice (some ⟨g4, 0, none⟩) (3 + 17 * G) c4, .pointer (some ⟨z, 2, none⟩), .int .u64 (oh : Nat), .pointer (some ⟨z, 3, none⟩), .int .u64 (od : Nat), .tuple #[.slice aA nA cA, .int .i64 eA], .slice aA nA cA, .int .i64 eA, .tuple #[.slice aB nA cB, .int .i64 eB], .slice (some ⟨g4, 0, none⟩) (3 + 17 * G) c4, .pointer (some ⟨z, 2, none⟩), .int .u64 (oh : Nat), .pointer (some ⟨z, 3, none⟩), .int .u64 (od : Nat), .tuple #[.slice aB nA cB, .int .i64 eB], .slice aB nA cB, .int .i64 eB, .tuple #[.slice aC nC cC, .int .i64 eC], .slice (some ⟨g4, 0, none⟩) (3 + 17 * G) c4, .tuple #[.slice aC nC cC, .int .i64 eC], .slice aC nC cC, .int .i64 eC, .tuple #[.slice aD nD cD, .int .i64 eD], .slice (some ⟨g4, 0, none⟩) (3 + 17 * G) c4, .pointer (some ⟨z, 2, none⟩), .int .u64 (oh : Nat), .pointer (some ⟨z, 3, none⟩), .int .u64 (od : Nat), .tuple #[.slice aD nD cD, .int .i64 eD], .slice aD nD cD, .int .i64 eD, .tuple #[.func (.func 81) #[] #[.pointer (some ⟨Bn, 0, none⟩)], .int .i64 0], .slice (some ⟨g4, 0, none⟩) (3 + 17 * G) c4, .pointer (some ⟨z, 2, none⟩), .int .u64 (oh : Nat), .tuple #[.func (.func 81) #[] #[.pointer (some ⟨Bn, 0, none⟩)], .int .i64 0], .func (.func 81) #[] #[.pointer (some ⟨Bn, 0, none⟩)], .int .i64 0, .tuple #[.func (.func 78) #[] #[.pointer (some ⟨Bt, 0, none⟩)], .int .i64 0], .slice (some ⟨g4, 0, none⟩) (3 + 17 * G) c4, .tuple #[.func (.func 78) #[] #[.pointer (some ⟨Bt, 0, none⟩)], .int .i64 0], .func (.func 78) #[] #[.pointer (some ⟨Bt, 0, none⟩)], .int .i64 0, .func (.func 81) #[] #[.pointer (some ⟨Bn, 0, none⟩)], .bool false, .bool false, .func (.func 78) #[] #[.pointer (some ⟨Bt, 0, none⟩)], .bool false, .bool false, .bool false, .slice (some ⟨g4, 0, none⟩) (3 + 17 * G) c4, .slice (some ⟨g0, 0, none⟩) (3 + 17 * G) c0, .bool true, .bool false, .bool false, .bool false, .slice (some ⟨g4, 0, none⟩) (3 + 17 * G + 2) c4, .slice (some ⟨g0, 0, none⟩) (3 + 17 * G) c0, .int .i64 (3 + 17 * (G : Nat)), .pointer (some ⟨g4, 3 + 17 * G, none⟩), .int .u64 71, .bool false, .bool false, .bool false, .slice (some ⟨g4, 0, none⟩) (3 + 17 * G + 2) c4, .slice (some ⟨g0, 0, none⟩) (3 + 17 * G) c0, .int .i64 (3 + 17 * (G : Nat)), .int .i64 (3 + 17 * (G : Nat) + 1), .pointer (some ⟨g4, 3 + 17 * G + 1, none⟩), .int .u64 72, .bool false, .bool false, .bool false, .slice aA nA cA, .slice aB nA cB, .bool true, .bool false, .bool false, .tuple #[.slice aW LW.length cW, .bool true], .slice (some ⟨g0, 0, none⟩) (3 + 17 * G) c0, .pointer (some ⟨z, 2, none⟩), .int .u64 (oh : Nat), .tuple #[.slice aW LW.length cW, .bool true], .slice aW LW.length cW, .bool true, .tuple #[.slice aP LP.length cP, .bool true], .slice (some ⟨g0, 0, none⟩) (3 + 17 * G) c0, .tuple #[.slice aP LP.length cP, .bool true], .slice aP LP.length cP, .bool true, .int .i64 (i : Nat), .slice (some ⟨g4, 0, none⟩) (3 + 17 * G) c4, .int .i64 (3 + 17 * (G : Nat)), .bool false, u149, u150, u151, u152, u153, .int .i64 (r : Nat), .bool true, u156', u157', .func (.func 81) #[] #[.pointer (some ⟨Bn, 0, none⟩)], undef, undef, undef, undef, undef, undef, undef, undef, undef, undef, undef, undef, undef, undef, undef, undef, undef, undef, .func (.func 78) #[] #[.pointer (some ⟨Bt, 0, none⟩)], .int .u64 (x1.1 : Nat), .int .u64 (x1.2 : Nat), undef, undef, undef, undef, undef, undef, undef, undef, undef, undef, undef, undef, undef, undef, undef, undef, undef, undef, undef, undef, undef, undef, undef, undef, undef, undef, undef, undef, undef, undef, u210', u211', u212', u213', u214', u215', u216', u217', u218', u219', u220', u221', u222', u223', u224', u225', u226', u227', u228', u229', u230', undef, undef, undef, undef, undef, undef, undef, undef, undef, undef, undef, undef, undef, undef, undef, undef, undef, undef, undef, undef, undef, undef, undef], defers := [] })
              (fun x1 a' _ X Y row hs hg hr => hs)
              ?assign2 ?body2 ?done2 ?stop2
            case assign2 =>
              rintro l pre x1 W K _ hI hK
              have HI := hid hI
              clear hI
              unfold eenc
              gi_wp2
              exact hK _ _ (KeepsFrom.refl _ _) (Kc.refl _ _) HI.out rfl
            case body2 =>
              rintro l pre x1 a' W hl ⟨lr, hlr⟩ ⟨⟨⟨⟨hE, bN1⟩, bK1⟩, hM⟩, hG⟩ rfl hlt ⟨hxh, hxd⟩
              obtain ⟨xh, xd⟩ := x1
              simp only at hxh hxd ⊢
              have cK := bK1.cell
              have fK := bK1.frozen
              have cP' := (show Boxed W zP 22 _ from hE.keep HFP.out (by simp)).cell
              have cC' := (show Boxed W (z + 1) 3 _ from hE.keep HF1.out (by simp)).cell
              have b8 := (show Boxed W (z + 2) 4 _ from hE.keep HF2.out (by simp))
              have c8 := b8.cell
              have f8 := b8.frozen
              have HWd := hid (show Wd W aP LP from Vs.keep0 HLq.out hE)
              have HPl : Hid ((pre ++ [(xh, xd)]).length = pre.length + 1) := by show _ = _; simp
              have HPk : Hid ((ents T G).length ≤ pre.length → NotPre (ents T G) (pre ++ [(xh, xd)])) := fun h q => by have := List.IsPrefix.length_le q; simp at this; omega
              have HPn : Hid (pre.length < (ents T G).length → (xh, xd) ≠ (ents T G).getD pre.length (0, 0) → NotPre (ents T G) (pre ++ [(xh, xd)])) := fun h h2 => not_prefix (by
                intro q
                apply h2
                simp [List.getD, q])
              have HPy : Hid (pre.length < (ents T G).length → (xh, xd) = (ents T G).getD pre.length (0, 0) → ((pre.length : Int) + 1) ≠ y → Gd (ents T G) y (pre ++ [(xh, xd)])) := fun h h1 h2 => gd_snoc hG (by rw [h1]; simp [List.getD, h]) h2
              have HPf : Hid (pre.length < (ents T G).length → LP.getD (2 * pre.length) 0 = ((ents T G).getD pre.length (0, 0)).1 ∧ LP.getD (2 * pre.length + 1) 0 = ((ents T G).getD pre.length (0, 0)).2) := fun h => by rw [← HLP.out]; exact flat2_at _ h
              have HQ1 := hid hE
              have HM1 := hid hM
              have HN1 := hid bN1
              have HK1 := hid bK1
              clear hlr hG hE hM bN1 bK1 b8
              generalize hpk : pre.length = kk at *
              clear hpk
              have hlp := HFl.out
              generalize hll : (ents T G).length = lo at *
              clear hll
              obtain ⟨lp, hlpe⟩ : ∃ lp, LP.length = lp := ⟨_, rfl⟩
              rw [hlpe] at hlp cP'
              have HLpe := hid hlpe
              have hkn : (kk : Int) + 1 < 100000 := by omega
              have hlp1 : (lp : Int) = 2 * (lo : Int) := by omega
              have hlp2 := hid hlp1
              clear hlp hlpe
              by_cases hkl : kk < lo
              · have hge : decide (2 * (kk : Int) + 1 ≥ (lp : Int)) = false := by simp; omega
                have hge2 : ¬ (lp : Int) ≤ 2 * (kk : Int) + 1 := by omega
                clear hlp1
                obtain ⟨bw, ow, rfl, cwA⟩ := Wd.at_ HWd.out (by
                  rintro rfl
                  have h1 := HLpe.out
                  have h2 := hlp2.out
                  simp at h1
                  omega)
                have cw1 := cwA (2 * kk) (by have h1 := HLpe.out; have h2 := hlp2.out; omega)
                have cw2 := cwA (2 * kk + 1) (by have h1 := HLpe.out; have h2 := hlp2.out; omega)
                obtain ⟨p1, p2⟩ := HPf.out hkl
                rw [p1] at cw1
                rw [p2] at cw2
                have hi1 : 2 * (kk : Int) < lp := by have h2 := hlp2.out; omega
                have hi2 : 2 * (kk : Int) + 1 < lp := by have h2 := hlp2.out; omega
                have HPn2 := hid (HPn.out hkl)
                have HPy2 := hid (HPy.out hkl)
                clear cwA p1 p2 HPf HPn HPy HPk
                generalize (ents T G).getD kk (0, 0) = yy at *
                obtain ⟨yh, yd⟩ := yy
                simp only at cw1 cw2
                by_cases hxy : xh = yh
                · have hne1 : ((xh : Int) != (yh : Int)) = false := by simp [hxy]
                  by_cases hxz : xd = yd
                  · have hne2 : ((xd : Int) != (yd : Int)) = false := by simp [hxz]
                    have HG2 := hid (HPy2.out (by rw [hxy, hxz]))
                    have hE7 : Ext [] Wz (W.setCell ⟨zk, 0, none⟩ (.int .i64 ((kk : Int) + 1))) := HQ1.out.on (Ext.setCell [zk] W ⟨zk, 0, none⟩ _ (by simp)) (by simp; omega)
                    have HQ7 := hid hE7
                    have HB7 := hid (HK1.out.set (.int .i64 ((kk : Int) + 1)))
                    have HK7 := hid (show Boxed (W.setCell ⟨zk, 0, none⟩ (.int .i64 ((kk : Int) + 1))) zn 3 _ from (Ext.setCell [zk] W ⟨zk, 0, none⟩ _ (by simp)).keep HN1.out (by simp; omega))
                    have cC7 : (W.setCell ⟨zk, 0, none⟩ (.int .i64 ((kk : Int) + 1))).cell? ⟨z + 1, 0, none⟩ = _ := (show Boxed _ (z + 1) 3 _ from hE7.keep HF1.out (by simp)).cell
                    have cK7 := HB7.out.cell
                    have HM7 := hid (HM1.out.ext ((KeepsOthers.setCell W ⟨zk, 0, none⟩ (.int .i64 ((kk : Int) + 1))).from _))
                    clear HPn2 HPy2 hxy hxz hE7
                    by_cases hkc : (kk : Int) + 1 = y
                    · have hkd : ((kk : Int) + 1 == y) = true := by simp [hkc]
                      have HKC := hid hkc
                      clear hkc
                      gi_wp2_with fail
                      exact ⟨(KeepsOthers.setCell _ _ _).from _, kc_box (.inl rfl) _ _, .inl ⟨⟨⟨⟨HQ7.out, HK7.out⟩, by rw [HPl.out]; exact HB7.out⟩, HM7.out⟩, by rw [HPl.out]; exact HKC.out, rfl⟩⟩
                    · have hkd : ((kk : Int) + 1 == y) = false := by simp [hkc]
                      have HKC := hid hkc
                      clear hkc
                      gi_wp2_with fail
                      exact ⟨(KeepsOthers.setCell _ _ _).from _, kc_box (.inl rfl) _ _, ⟨⟨⟨HQ7.out, HK7.out⟩, by rw [HPl.out]; exact HB7.out⟩, HM7.out⟩, HG2.out HKC.out⟩
                  · have hne2 : ((xd : Int) != (yd : Int)) = true := by simp; omega
                    have HNP := hid (HPn2.out (fun q => hxz (by injection q)))
                    clear HPn2 HPy2 hxz hxy
                    gi_wp2_with fail
                    exact ⟨(KeepsOthers.setCell _ _ _).from _, kc_box (.inr rfl) _ _, .inr ⟨rfl, HNP.out, by simpa using HK1.out.lt⟩⟩
                · have hne1 : ((xh : Int) != (yh : Int)) = true := by simp; omega
                  have HNP := hid (HPn2.out (fun q => hxy (by injection q)))
                  clear HPn2 HPy2 hxy
                  gi_wp2_with fail
                  exact ⟨(KeepsOthers.setCell _ _ _).from _, kc_box (.inr rfl) _ _, .inr ⟨rfl, HNP.out, by simpa using HK1.out.lt⟩⟩
              · have hge : decide (2 * (kk : Int) + 1 ≥ (lp : Int)) = true := by simp; omega
                have hge2 : (lp : Int) ≤ 2 * (kk : Int) + 1 := by omega
                have HNP := hid (HPk.out (by omega))
                clear hlp1
                gi_wp2_with fail
                exact ⟨(KeepsOthers.setCell _ _ _).from _, kc_box (.inr rfl) _ _, .inr ⟨rfl, HNP.out, by simpa using HK1.out.lt⟩⟩
            case done2 =>
              rintro E ys W hD rfl ⟨⟨⟨⟨hE, bN1⟩, bK1⟩, hM⟩, hG⟩ hK
              refine ⟨.inl rfl, E, _, rfl, ⟨hE, bN1, bK1⟩, ?_, List.nodup_cons.2 ⟨fun h => by have := (HD2.out E h).1; omega, HNn.out⟩, ?_, Nat.le_refl _, .inl rfl⟩
              · intro D' h'
                rcases List.mem_cons.1 h' with rfl | h'
                · exact hK
                · exact hM D' h'
              · intro D' h'
                rcases List.mem_cons.1 h' with rfl | h'
                · exact ⟨lt_of_heap hK, by omega⟩
                · exact ⟨lt_of_heap (hM D' h'), (HD2.out D' h').2.1⟩
            case stop2 =>
              rintro E cd pre W hD hSp h hK
              rcases h with ⟨⟨⟨⟨hE, bN1⟩, bK1⟩, hM⟩, hcut, rfl⟩ | ⟨rfl, hp, _⟩
              · refine wpIn_exit ?_
                refine ⟨.inr rfl, E, _, rfl, ⟨hE, bN1, bK1⟩, ?_, List.nodup_cons.2 ⟨fun h => by have := (HD2.out E h).1; omega, HNn.out⟩, ?_, List.IsPrefix.length_le hSp, .inr hcut⟩
                · intro D' h'
                  rcases List.mem_cons.1 h' with rfl | h'
                  · exact hK
                  · exact hM D' h'
                · intro D' h'
                  rcases List.mem_cons.1 h' with rfl | h'
                  · exact ⟨lt_of_heap hK, by omega⟩
                  · exact ⟨lt_of_heap (hM D' h'), (HD2.out D' h').2.1⟩
              · exact absurd hSp hp
          case rest2 =>
            rintro e b3 v3 ⟨he, E, kv, ha3, ⟨hE, bN1, bK1⟩, hM, hN, hDl, hkv, hkc⟩
            have hx : ∀ R : Exit → Act → World → Prop, R .normal b3 v3 → Exit.inBlock 6 R e b3 v3 := fun R h => by rcases he with rfl | rfl <;> exact h
            refine hx _ ?_
            clear hx he
            subst ha3
            have cN := bN1.cell
            have cK := bK1.cell
            have cW' := (show Boxed v3 zW 22 _ from hE.keep HFW.out (by simp)).cell
            have cP' := (show Boxed v3 zP 22 _ from hE.keep HFP.out (by simp)).cell
            have cC' := (show Boxed v3 (z + 1) 3 _ from hE.keep HF1.out (by simp)).cell
            have HG2 := hid (And.intro hE (And.intro hM (And.intro hN hDl)))
            clear hE hM hN hDl bN1 bK1
            have hnc := HNC.out
            have hlpE := HFl.out
            have hnvb : (nv : Int) ≤ 100000 := by have := HNV.out; omega
            have hkvb : (kv : Int) ≤ 100000 := by omega
            have hrr2 : (r : Int) + 1 ≤ 2 := by omega
            by_cases h1 : (nv : Int) = (LW.length : Int)
            · have d1 : ((nv : Int) != (LW.length : Int)) = false := by simp; omega
              clear hnc h1
              by_cases h2 : kv = (ents T G).length
              · have d2 : (2 * (kv : Int) != (LP.length : Int)) = false := by simp; omega
                clear hkc h2 hlpE hkv
                gi_wp2_with fail
                exact ⟨_, _, _, _, _, _, _, _, _, _, _, _, _, _, _, _, _, _, _, _, _, _, _, _, _, _, _, _, _, E :: D :: Ds, rfl, HG2.out⟩
              · have d2 : (2 * (kv : Int) != (LP.length : Int)) = true := by simp; omega
                have d3 : ((kv : Int) != y) = false := by simp; omega
                clear hkc h2 hlpE hkv
                gi_wp2_with fail
                exact ⟨_, _, _, _, _, _, _, _, _, _, _, _, _, _, _, _, _, _, _, _, _, _, _, _, _, _, _, _, _, E :: D :: Ds, rfl, HG2.out⟩
            · have d1 : ((nv : Int) != (LW.length : Int)) = true := by simp; omega
              have d0 : ((nv : Int) != y) = false := by simp; omega
              clear hnc h1
              by_cases h2 : kv = (ents T G).length
              · have d2 : (2 * (kv : Int) != (LP.length : Int)) = false := by simp; omega
                clear hkc h2 hlpE hkv
                gi_wp2_with fail
                exact ⟨_, _, _, _, _, _, _, _, _, _, _, _, _, _, _, _, _, _, _, _, _, _, _, _, _, _, _, _, _, E :: D :: Ds, rfl, HG2.out⟩
              · have d2 : (2 * (kv : Int) != (LP.length : Int)) = true := by simp; omega
                have d3 : ((kv : Int) != y) = false := by simp; omega
                clear hkc h2 hlpE hkv
                gi_wp2_with fail
                exact ⟨_, _, _, _, _, _, _, _, _, _, _, _, _, _, _, _, _, _, _, _, _, _, _, _, _, _, _, _, _, E :: D :: Ds, rfl, HG2.out⟩
      case fin =>
        rintro act wz ⟨u30', u31', u154', u155', u156', u157', u158', u177', u210', u211', u212', u213', u214', u215', u216', u217', u218', u219', u220', u221', u222', u223', u224', u225', u226', u227', u228', u229', u230', Ds, rfl, hE, hM, hN, hDl⟩
        have KB := book_five wz w4.heap.size w5.heap.size w6.heap.size w7.heap.size aA aB aC aD nA nA nC nD cA cB cC cD g4 (3 + 17 * G) c4 (O1.getD []) (O1.getD []) LC LD Tz
          (HR1.out.keep0 hE) (HR2.out.keep0 hE) (HR3.out.keep0 hE) (HR4.out.keep0 hE) (HTZ.out.keep0 hE) (by have := HTl.out; omega) hg4l HRA.out.up HRB.out.up HRC.out.up HE45.out.size HE56.out.size HE67.out.size (by omega) (by omega) (by omega) (by omega) (by omega)
        have hAl1 := Ext.alloc [] wz (.cells #[.slice aA nA cA, .slice aB nA cB, .slice aC nC cC, .slice aD nD cD, .slice (some ⟨g4, 0, none⟩) (3 + 17 * G) c4] 22)
        have hAl2 := Ext.alloc [] (wz.alloc (.cells #[.slice aA nA cA, .slice aB nA cB, .slice aC nC cC, .slice aD nD cD, .slice (some ⟨g4, 0, none⟩) (3 + 17 * G) c4] 22)) (.cells #[.slice none 0 0, .slice (some ⟨wz.heap.size, 0, none⟩) 5 5, .slice none 0 0, .slice none 0 0] 74)
        have HAl := hid (hAl1.trans hAl2)
        have HQr := hid hE
        have HMr := hid hM
        have HNr := hid hN
        have HDl := hid hDl
        have hz2g : z + 2 < g4 := by have := HS0.out; omega
        clear hE hM hN hDl hAl1 hAl2
        gi_wp2_with fail
        refine (callsIn_wide.2 KB).mono ?_
        clear KB
        rintro e W7 ⟨rfl, Sb, hSb, hE7⟩
        have b8 : Boxed W7 (z + 2) 4 (.bool false) := hE7.keep (HAl.out.keep (HQr.out.keep HF2.out (by simp)) (by simp)) (fun q => by have := (hSb _ q).1; omega)
        have c8 := b8.cell
        have f8 := b8.frozen
        have HM7 : Hid (Marks Ds W7) := fun D hD => hE7.keep (HAl.out.keep (HMr.out D hD) (by simp)) (fun q => by
          obtain ⟨cs, hcs⟩ := (hSb _ q).2.2
          rw [HMr.out D hD] at hcs
          cases hcs)
        have HE7 := hid (((HXz.out.trans HQr.out).trans HAl.out).on hE7 (fun b hb => by have h1 := (hSb b hb).1; have h2 := HE0.out.size; omega))
        have HB8 := hid b8
        clear hE7 b8 hSb
        have hfin : ∀ tm : Array Value, tm.getD 8 undef = .pointer (some ⟨z + 2, 0, none⟩) → LeavesInM Fence.wide 16 Tryd.prog Tryd.f7 tm (SayPost w (.bool true)) (Ds.map mk) .returning (W7.setCell ⟨z + 2, 0, none⟩ (.bool true)) := fun tm htm => by
          refine leaves_marks Ds _ (HM7.out.ext ((KeepsOthers.setCell _ _ _).from _)) HNr.out (fun W' hX => ⟨.bool true, ?_, rfl, ?_⟩)
          · have b9 : Boxed W' (z + 2) 4 (.bool true) := hX.keep (HB8.out.set _) (fun h => by have := (HDl.out _ h).2; have := HF2.out.lt; omega)
            exact results_cell1 rfl _ _ ⟨z + 2, 0, none⟩ _ htm (load4 b9)
          · exact (HE7.out.on (Ext.setCell [z + 2] W7 ⟨z + 2, 0, none⟩ _ (by simp)) (by simp; have := HZ.out; omega)).on hX (fun D hD => by have h1 := (HDl.out D hD).2; have h2 := HXz.out.size; omega)
        have HFin := hid hfin
        clear hfin
        rcases HeA.out with hq | hq
        · subst hq
          gi_wp2_with fail
          exact HFin.out _ rfl
        · by_cases hq0 : eA = 0
          · subst hq0
            gi_wp2_with fail
            exact HFin.out _ rfl
          · have d1 : (eA == 0) = false := by simpa using hq0
            have d2 : ((nA : Int) == 0) = true := by simp; omega
            clear hq0
            gi_wp2_with fail
            exact HFin.out _ rfl
end Go.Proofs.YtkknadkcpndnaaaDoor.Rm
