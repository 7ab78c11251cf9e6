/-
  What a collection leaves is what the roots reached, with every word as it was: the function MemoryCollects answers true, where what it reads is of bulk at most 1048576; the table of sizes in the program is what its text lays.
-/
import Derived.Test.YtjbbomokgpoilaaGreatDoorZVC
import Derived.Test.YtjbbomokgpoilaaGreatDoorZVB
import Derived.Test.YtjbbomokgpoilaaGreatDoorCards
import Derived.Test.YtjbbomokgpoilaaGreatDoorTie
import Derived.Deep.DeepHandedRow
/-
  The walk through MemoryCollects; no statement is proved here.
-/
namespace Go.Proofs.YtjbbomokgpoilaaGreatDoor
open Go.RowKit

set_option maxRecDepth 100000 in
set_option maxHeartbeats 4000000 in
theorem collWalk (x pc : Int) (a : Option Addr) (n c : Nat) (S : List Oq) (ra : Option Addr) (rn rc : Nat) (R : List Int) (w : World) (hG : Gl w) (hS : Scr w a S) (hn : S.length = n) (hsm : n ≤ 1048576)
    (hR : Co.Is w ra R) (hrn : R.length = rn) (hrb : rn ≤ 1048576) (hi : ∀ y ∈ R, I64 y) :
    Calls Tryz.prog 7 #[.int .i64 x, .int .i64 pc, .slice a n c, .slice ra rn rc] w (SayPost w (.bool true)) := by
  have K := grown_any w hG x pc a n c S hS hn
  have hSV : ∀ q ∈ S, 0 ≤ q.V ∧ q.V < 18446744073709551616 := fun q hq => by
    obtain ⟨k, hk, rfl⟩ := List.mem_iff_getElem.1 hq
    rcases hS.at_ with e | ⟨b, o, _, hsc⟩
    · rw [e] at hk; simp at hk
    · obtain ⟨_, _, _, _, _, _, hop, _⟩ := hsc k hk
      exact hop.hV
  have hJ : Jd (grownM x pc S).1 [] := grow_jd S hSV (jd_new (by unfold pgF; split <;> omega) pc)
  have hgi := grown_gi x pc S hSV hS.len
  have hsl := hS.len
  have hcy := grown_cy x pc S hSV (by omega)
  have HG := hid hG
  have HR := hid hR
  have Hi := hid hi
  clear hS hn hSV hG hR hi
  generalize grownM x pc S = Rr at *
  obtain ⟨M, L⟩ := Rr
  simp only at hJ hgi hcy
  have hk := hgi.km
  have hok := hgi.ok
  have hln := hgi.ln
  simp only at hk hok hln
  generalize S.length = sl at *
  obtain ⟨l0, hl0, hlv0⟩ := nodes_live M (adrsF L R)
  have hAi := adrsF_i64 hok Hi.out
  have hLi : ∀ y ∈ liveM M (adrsF L R), I64 y := fun y hy => hAi y (List.mem_filter.1 hy).1
  have hAl : (adrsF L R).length = rn := by unfold adrsF; rw [List.length_map]; exact hrn
  have hLl := liveM_len M (adrsF L R)
  rw [hAl] at hLl
  have hV := hJ.vsd hl0 (by omega) hcy
  have hLeft := collect_left hJ hl0 hlv0
  have hCok := collect_ok hk.iv hl0 hlv0
  have hkc := (Mk.collect (b := 10) hk (liveM M (adrsF L R))).1
  have HV := hid hV
  have HJ := hid hJ
  have HK := hid hk
  have HL0 := hid hl0
  have HLv0 := hid hlv0
  have HLi := hid hLi
  have HAi := hid hAi
  have HAl := hid hAl
  have HLl := hid hLl
  have HLeft := hid hLeft
  have HKc := hid hkc
  clear hgi hJ hk hok hl0 hAi hLi hAl hLl hcy hV hlv0 hLeft hkc
  go_enter Tryz.func7, Tryz.ntmps7
  go_wp2_with fail
  refine K.mono ?_
  clear K
  rintro e w1 ⟨p1, gv, rfl, ⟨Z1, hm1, hz1, hgv, hE1⟩, _⟩
  simp only at hm1 hgv
  obtain ⟨va, vc, rfl, hVI, _⟩ := own_is hgv
  have HM1 := hid hm1.there
  have HVI := hid hVI
  have HE1 := hid hE1
  obtain ⟨Y1, hY1⟩ : ∃ Y : Nat → Prop, (fun k => Z1 k ∧ k < w1.heap.size) = Y := ⟨_, rfl⟩
  have hZlo : Hid (∀ k, Y1 k → w.heap.size ≤ k ∧ k < w1.heap.size) := fun k hk => by rw [← hY1] at hk; exact ⟨(hz1 k hk.1).1, hk.2⟩
  rw [hY1] at HM1
  clear hm1 hz1 hgv hE1 hVI hY1
  go_wp2_with fail
  refine (mawake_any w1 (HG.out.keep0 HE1.out)).mono ?_
  rintro e w3 ⟨rfl, hE3⟩
  have HM3 := hid (HM1.out.keep0 hE3)
  have K := addresses_any w3 va L.length vc L (HVI.out.keep0 (co_ext hE3)) rfl (by omega) ra rn rc R (HR.out.keep0 (co_ext (HE1.out.trans hE3))) hrn (by omega)
  have HE13 := hid hE3
  have HE3 := hid (HE1.out.trans hE3)
  clear hE3 HM1 HE1 HVI
  go_wp2_with fail
  refine K.mono ?_
  clear K
  rintro e w4 ⟨av, rfl, ho4, hE4⟩
  obtain ⟨aa, ac, rfl, hA4, _⟩ := own_is (l := adrsF L R) ho4
  rw [HAl.out]
  have hE4 := ext_co hE4
  have K := mlive_any (HM3.out.keep0 hE4) HK.out HJ.out aa rn ac (adrsF L R) hA4 HAl.out (by omega) HAi.out
  have HM4 := hid (HM3.out.keep0 hE4)
  have HE4 := hid (HE3.out.trans hE4)
  have HE14 := hid (HE13.out.trans hE4)
  clear ho4 hA4 hE4 HM3 HE3 HE13
  go_wp2_with fail
  refine K.mono ?_
  clear K
  rintro e w5 ⟨lv, rfl, ho5, hE5⟩
  obtain ⟨la, lc, rfl, hL5, hlb5⟩ := own_is (l := liveM M (adrsF L R)) ho5
  have hE5 := ext_co hE5
  have K := mview_any (HM4.out.keep0 hE5) (b := 12) HK.out HJ.out la (liveM M (adrsF L R)).length lc (liveM M (adrsF L R)) hL5 rfl (by have := HLl.out; omega) HLi.out HL0.out
  have HM5 := hid (HM4.out.keep0 hE5)
  have HE5 := hid (HE4.out.trans hE5)
  have HE15 := hid (HE14.out.trans hE5)
  have HL5 := hid hL5
  have HO5 := hid ho5
  have HS14 := hid HE14.out.size
  clear ho5 hL5 hlb5 hE5 HM4 HE4 HE14
  go_wp2_with fail
  refine K.mono ?_
  clear K
  rintro e w6 ⟨v, fa, fc, rra, rrc, rfl, hv1, hv2, hv3, hE6⟩
  obtain ⟨oa, oc, rfl, hv4⟩ := hv1.vl
  have hv5 := Co.own_vs hv3
  have HM6 := hid (HM5.out.keep0 hE6)
  have HE6 := hid (HE5.out.trans hE6)
  have HE16 := hid (HE15.out.trans hE6)
  have HL6 := hid (HL5.out.keep0 (co_ext hE6))
  have HO6 := hid (own_keep0 HO5.out (hE6))
  have HS6 : Hid (∀ u, Ext [] w6 u → Calls Tryz.prog 30 #[.agg #[.slice oa (vosM M (objs M.H.sp)).length oc, .slice fa (fr M.H.R).length fc, .slice rra (vroots (liveM M (adrsF L R))).length rrc, .int .i64 M.G.ph, .int .i64 M.G.cy]] u (SayPost u (.int .i64 0))) := fun u hu =>
    sound_yes u oa _ oc _ fa _ fc _ rra _ rrc _ _ _ (hv4.keep0 hu) rfl (own_keep0 (own_base hv2 (Nat.zero_le _)) hu) rfl (Co.Is.keep0 hv5 (co_ext hu)) rfl HV.out
  have HP6 : Hid (∀ u, Ext [] w6 u → Calls Tryz.prog 31 #[.agg #[.slice oa (vosM M (objs M.H.sp)).length oc, .slice fa (fr M.H.R).length fc, .slice rra (vroots (liveM M (adrsF L R))).length rrc, .int .i64 M.G.ph, .int .i64 M.G.cy], .bool true] u (PdPost u (vosM M (objs M.H.sp)).length (vosM M (objs M.H.sp)) (vroots (liveM M (adrsF L R))) true)) := fun u hu =>
    parted_any u oa _ oc _ fa _ fc _ rra _ rrc _ _ _ true (hv4.keep0 hu) rfl (own_keep0 (own_base hv2 (Nat.zero_le _)) hu) rfl (Co.Is.keep0 hv5 (co_ext hu)) rfl (by have := vroots_len (liveM M (adrsF L R)); have := HLl.out; omega) HV.out
  have HCy : Hid (∀ u, Ext [] w6 u → Calls Tryz.prog 20 #[.pointer (some ⟨p1, 0, none⟩)] u fun e u' => e = .returned (.int .i64 M.G.cy) ∧ u' = u) := fun u hu => cycles_any (HM6.out.keep0 hu)
  clear hv1 hv2 hv3 hv4 hv5 hE6 HM5 HE5 HE15 HL5 HO5
  obtain ⟨on, hon⟩ : ∃ on, (vosM M (objs M.H.sp)).length = on := ⟨_, rfl⟩
  have HOn := hid hon
  rw [hon] at HS6 HP6 ⊢
  clear hon
  generalize (fr M.H.R).length = fn at *
  generalize (vroots (liveM M (adrsF L R))).length = rrn at *
  generalize hgph : (M.G.ph : Int) = gph at *
  generalize hgcy : (M.G.cy : Int) = gcy at *
  clear hgph
  have HGcy := hid hgcy
  clear hgcy
  obtain ⟨W7, hW7⟩ : ∃ W7, w6.alloc (.cells #[.slice oa on oc, .slice fa fn fc, .slice rra rrn rrc, .int .i64 gph, .int .i64 gcy] 40) = W7 := ⟨_, rfl⟩
  obtain ⟨z, hz⟩ : ∃ z, w6.heap.size = z := ⟨_, rfl⟩
  have hE7 : Ext [] w6 W7 := by rw [← hW7]; exact Ext.alloc [] _ _
  have hr7 : W7.heap[z]? = some (.cells #[.slice oa on oc, .slice fa fn fc, .slice rra rrn rrc, .int .i64 gph, .int .i64 gcy] 40 (0, 0)) := by rw [← hW7, ← hz]; exact heap_alloc_new _ _
  have HC : Hid (∀ u, Ext [] W7 u → u.cell? ⟨z, 0, none⟩ = some (.slice oa on oc) ∧ u.cell? ⟨z, 1, none⟩ = some (.slice fa fn fc) ∧ u.cell? ⟨z, 2, none⟩ = some (.slice rra rrn rrc) ∧ u.cell? ⟨z, 3, none⟩ = some (.int .i64 gph) ∧ u.cell? ⟨z, 4, none⟩ = some (.int .i64 gcy)) := fun u hu => by
    have := hu.keep hr7 (by simp)
    refine ⟨?_, ?_, ?_, ?_, ?_⟩ <;> (rw [cell_of_row _ _ _ _ _ _ this]; rfl)
  have HE67 := hid hE7
  have HW7 := hid hW7
  have HZ := hid hz
  clear hE7 hr7 hW7 hz
  go_wp2_with fail
  rw [HW7.out]
  try simp only [HZ.out]
  refine (HS6.out W7 HE67.out).mono ?_
  rintro e w8 ⟨rfl, hE8⟩
  have HE68 := hid (HE67.out.trans hE8)
  obtain ⟨c0, c1, c2, c3, c4⟩ := HC.out w8 hE8
  clear hE8 HC HE67 HW7 HS6
  go_wp2_with fail
  refine (HP6.out w8 HE68.out).mono ?_
  rintro e w9 ⟨wv, C, rfl, hcl, hC, hown, hE9⟩
  obtain ⟨wa, wc, rfl, _⟩ := own_slice hown
  have hnm := HLeft.out.names HJ.out HL0.out HLv0.out (hcl.trans HOn.out.symm) hC
  rw [HOn.out] at hnm
  rw [← hnm] at hown ⊢
  have HWs := hid (Co.own_vs hown)
  have HWo := hid hown
  have HS18 := hid (Nat.le_trans HE16.out.size HE68.out.size)
  have HS19 := hid (Nat.le_trans HE16.out.size (Nat.le_trans HE68.out.size hE9.size))
  have HM9 := hid (HM6.out.keep0 (HE68.out.trans hE9))
  have HE9 := hid (HE6.out.trans (HE68.out.trans hE9))
  have HE69 := hid (HE68.out.trans hE9)
  have HL9 := hid (HL6.out.keep0 (co_ext (HE68.out.trans hE9)))
  have HW9 := hid (hZlo)
  clear hown hcl hC hnm hE9 c0 c1 c2 c3 c4 HM6 HE6 HE68 HL6 HP6
  obtain ⟨nm, hnm⟩ : ∃ nm, (vosM (collectM M (liveM M (adrsF L R))).1 (objs (collectM M (liveM M (adrsF L R))).1.H.sp)).map Vo.a = nm := ⟨_, rfl⟩
  rw [hnm] at HWs HWo ⊢
  have HNm := hid hnm
  clear hnm
  have HB : Hid (∀ k, k < nm.length → I64 (nm.getD k 0) ∧ ∃ j, j < (vosM (collectM M (liveM M (adrsF L R))).1 (objs (collectM M (liveM M (adrsF L R))).1.H.sp)).length ∧ k = j ∧ nm.getD k 0 = (vAt (vosM (collectM M (liveM M (adrsF L R))).1 (objs (collectM M (liveM M (adrsF L R))).1.H.sp)) j).a) := fun k hk => by
    have hln := congrArg List.length HNm.out
    rw [List.length_map] at hln
    have hj : k < (vosM (collectM M (liveM M (adrsF L R))).1 (objs (collectM M (liveM M (adrsF L R))).1.H.sp)).length := by omega
    have e : nm.getD k 0 = (vAt (vosM (collectM M (liveM M (adrsF L R))).1 (objs (collectM M (liveM M (adrsF L R))).1.H.sp)) k).a := by
      rw [vAt_get hj, ← HNm.out]
      simp [List.getD, hj]
    refine ⟨?_, k, hj, rfl, e⟩
    have := (vo_ok HLeft.out.jd (List.getElem_mem hj)).1
    rw [e, vAt_get hj]
    have h1 := this.lo
    have h2 := this.hi
    have h3 := this.s1
    unfold I64
    omega
  have HBl : Hid (nm.length ≤ 100000000) := by
    have h1 := congrArg List.length HNm.out
    rw [List.length_map] at h1
    have h2 := vosM_len (collectM M (liveM M (adrsF L R))).1 (objs (collectM M (liveM M (adrsF L R))).1.H.sp)
    have h3 := HLeft.out.jd.hv.few
    show _ ≤ _
    omega
  obtain ⟨nl, hnl⟩ : ∃ nl, nm.length = nl := ⟨_, rfl⟩
  have HNl := hid hnl
  rw [hnl] at HB HBl HWo ⊢
  clear hnl
  go_wp2_with fail
  go_loopw [16, 17] (fun lv q wr => ∃ k : Nat, q = .int .i64 k ∧ k ≤ nl ∧ Wls wr w9.heap.size lv ((nm.take k).map (allM M)) ∧ Ext [] w9 wr) (fun _ q _ => (nl - (intOf q)).toNat)
  case atStart => exact ⟨0, rfl, Nat.zero_le _, Wls.nil _ _, Ext.refl _ _⟩
  case round =>
    obtain ⟨k, rfl, hk, hw, hE⟩ := hrel
    obtain ⟨lwa, lwc, rfl⟩ := hw.slice
    have hlen : ((nm.take k).map (allM M)).length = k := by rw [List.length_map, List.length_take, HNl.out]; omega
    rw [hlen] at hw ⊢
    by_cases hlt : k < nl
    · obtain ⟨hxI, _⟩ := HB.out k hlt
      have hxc : ∃ g o, wa = some ⟨g, o, none⟩ ∧ ∀ u, Ext [] w9 u → u.cell? ⟨g, o + k, none⟩ = some (.int .i64 (nm.getD k 0)) := by
        rcases HWs.out with e | ⟨g, o, e1, e2⟩
        · have : nm = [] := by simpa [lI] using e
          have h0 := HNl.out
          rw [this] at h0
          simp at h0
          omega
        · refine ⟨g, o, e1, fun u hu => hu.cell ?_ (by simp)⟩
          have h0 := HNl.out
          rw [e2 k (by simp [lI]; omega)]
          simp [lI, show k < nm.length by omega]
      obtain ⟨g, o, rfl, hxc⟩ := hxc
      have kx := hxc wr hE
      have K24 : Hid (∀ u, Ext [] wr u → Calls Tryz.prog 24 #[.pointer (some ⟨p1, 0, none⟩), .int .i64 (nm.getD k 0)] u (Al9Post u (allM M (nm.getD k 0)))) := fun u hu => mall_any (HM9.out.keep0 (hE.trans hu)) HK.out HJ.out _ hxI
      have HTk : Hid ((nm.take (k + 1)).map (allM M) = (nm.take k).map (allM M) ++ [allM M (nm.getD k 0)]) := by
        have h0 := HNl.out
        show _ = _
        rw [List.take_add_one, List.map_append]
        have hkl : k < nm.length := by omega
        simp [List.getD, hkl]
      have HW := hid hw
      have HE := hid hE
      have HLn := hid hlen
      clear hw hE hxI hxc hlen
      generalize nm.getD k 0 = xx at *
      go_wp2_with fail
      refine (K24.out wr (Ext.refl _ _)).mono ?_
      rintro e w10 ⟨v10, rfl, ho10, hE10⟩
      obtain ⟨a10, c10, rfl, _⟩ := own_slice ho10
      obtain ⟨v11, w11, hr11, hw11, hE11⟩ := (HW.out.keep0 hE10).push (HE.out.trans hE10) (own_base ho10 HE.out.size) 67 (by rw [HLn.out]; have := HBl.out; omega)
      rw [← HTk.out] at hw11
      obtain ⟨a11, c11, rfl⟩ := hw11.slice
      have hl2 : ((nm.take (k + 1)).map (allM M)).length = k + 1 := by rw [List.length_map, List.length_take, HNl.out]; omega
      rw [hl2] at hw11 hr11
      have hkb : (k : Int) ≤ 100000000 := by have := HBl.out; omega
      have HW11 := hid hw11
      have HE11 := hid hE11
      clear ho10 hE10 hw11 hE11 K24 kx hl2
      generalize (allM M xx).length = xl at *
      go_wp2_with (at_builtin; refine wpList_append_run rfl _ _ 67 rfl _ _ _ rfl rfl hr11 ?_)
      go_roundw
      case rel => exact ⟨k + 1, by go_num, by omega, HW11.out, HE11.out⟩
      case measure => simp [intOf]; omega
    · obtain rfl : k = nl := by omega
      have HW := hid hw
      have HE := hid hE
      clear hw hE hlen
      obtain ⟨hc2, _⟩ := hCok
      have K16 := fun u (hu : Ext [] wr u) => mcollect_any (b := 11) (HM9.out.keep0 (HE.out.trans hu)) HK.out la (liveM M (adrsF L R)).length lc (liveM M (adrsF L R)) (HL9.out.keep0 (co_ext (HE.out.trans hu))) rfl (by have := HLl.out; omega) HLi.out
      rw [hc2] at K16
      have hLv := HLeft.out
      have hph := hLv.ph
      have hcy2 : gcy < ((collectM M (liveM M (adrsF L R))).1.G.cy : Int) := by rw [← HGcy.out]; have := hLv.cy; omega
      have HAll : Hid (∀ j, j < k → allM (collectM M (liveM M (adrsF L R))).1 (nm.getD j 0) = allM M (nm.getD j 0)) := fun j hj => by
        obtain ⟨_, j', h1, rfl, h2⟩ := HB.out j hj
        obtain ⟨o, ho, _⟩ := vos_obj hLv.jd h1
        rw [← h2] at ho
        exact hLv.all HJ.out HLv0.out ho
      have HN2 := hid (hLv.nodes HJ.out HLv0.out HL0.out)
      have HJ2 := hid hLv.jd
      have HK2 := hid HKc.out
      have HK16 := hid K16
      clear K16 hc2 hLv HLeft HKc HK HJ HL0
      generalize (collectM M (liveM M (adrsF L R))).1 = M2 at *
      go_wp2_with fail
      refine met (cycles_any (HM9.out.keep0 HE.out)) ?_
      rw [HGcy.out]
      go_wp2_with fail
      refine (HK16.out wr (Ext.refl _ _)).mono ?_
      rintro e w12 ⟨rfl, hm12, hx12⟩
      have HE12 := hid (Fx.on (HE9.out.trans HE.out) hx12 (fun j hj => (hZlo.out j hj).1))
      have HWl := hid (HW.out.fx hx12 (fun j hj _ hY => by have := (hZlo.out j hY).2; have := HS19.out; omega))
      have HWn := hid (Co.own_vs (own_fx (own_keep0 HWo.out HE.out) hx12 (fun j hj _ hY => by have := (hZlo.out j hY).2; have := HS18.out; omega)))
      have HLa := hid (Co.own_vs (own_fx (own_keep0 HO6.out (HE69.out.trans HE.out)) hx12 (fun j hj _ hY => by have := (hZlo.out j hY).2; have := HS14.out; omega)))
      have HM12 := hid hm12
      have hphI : (M2.G.ph : Int) = 0 := by rw [hph]; rfl
      have K19 := phase_any hm12
      have K20 := cycles_any hm12
      rw [hphI] at K19
      have KV := fun u (hu : Ext [] w12 u) => mview_any (hm12.keep0 hu) (b := 10) HK2.out HJ2.out la (liveM M (adrsF L R)).length lc (liveM M (adrsF L R)) (Co.Vs.keep0 HLa.out (co_ext hu)) rfl (by have := HLl.out; omega) HLi.out HN2.out
      have HKV := hid KV
      have hcyd : decide ((M2.G.cy : Int) ≤ gcy) = false := by simpa using hcy2
      clear hm12 hx12 KV hcy2 HM9 HW HWo HE HE9 HE69 HO6 hphI hph
      generalize (M2.G.cy : Int) = cy2 at *
      generalize (M2.G.ph : Int) = ph2 at *
      go_wp2_with fail
      refine met K19 ?_
      go_wp2_with fail
      refine met K20 ?_
      go_wp2_with fail
      refine (HKV.out w12 (Ext.refl _ _)).mono ?_
      rintro e w13 ⟨v2, fa2, fc2, rra2, rrc2, rfl, hv21, _, _, hE13⟩
      obtain ⟨oa2, oc2, rfl, hv24⟩ := hv21.vl
      have hvl : (vosM M2 (objs M2.H.sp)).length = k := by rw [← HNl.out, ← HNm.out, List.length_map]
      rw [hvl]
      have HV2 := hid hv24
      have HVl := hid hvl
      have HE13 := hid hE13
      clear hv21 hv24 hvl hE13 K19 K20 HKV
      generalize (vroots (liveM M (adrsF L R))).length = rrn2 at *
      generalize (fr M2.H.R).length = fn2 at *
      obtain ⟨W14, hW14⟩ : ∃ W14, w13.alloc (.cells #[.slice oa2 k oc2, .slice fa2 fn2 fc2, .slice rra2 rrn2 rrc2, .int .i64 ph2, .int .i64 cy2] 40) = W14 := ⟨_, rfl⟩
      obtain ⟨z2, hz2⟩ : ∃ z2, w13.heap.size = z2 := ⟨_, rfl⟩
      have hE14 : Ext [] w13 W14 := by rw [← hW14]; exact Ext.alloc [] _ _
      have hr14 : W14.heap[z2]? = some (.cells #[.slice oa2 k oc2, .slice fa2 fn2 fc2, .slice rra2 rrn2 rrc2, .int .i64 ph2, .int .i64 cy2] 40 (0, 0)) := by rw [← hW14, ← hz2]; exact heap_alloc_new _ _
      have HC2 : Hid (∀ u, Ext [] W14 u → u.cell? ⟨z2, 0, none⟩ = some (.slice oa2 k oc2)) := fun u hu => by
        have := hu.keep hr14 (by simp)
        rw [cell_of_row _ _ _ _ _ _ this]; rfl
      have HE14 := hid (HE13.out.trans hE14)
      have HW14 := hid hW14
      have HZ2 := hid hz2
      have HV14 := hid (HV2.out.keep0 hE14)
      clear hE14 hr14 hW14 hz2 HV2
      go_wp2_with fail
      rw [HW14.out]
      try simp only [HZ2.out]
      go_loopw [20] (fun q wr => ∃ j : Nat, q = .int .i64 j ∧ j ≤ k ∧ Ext [] W14 wr) (fun q _ => (k - (intOf q)).toNat)
      case atStart => exact ⟨0, rfl, Nat.zero_le _, Ext.refl _ _⟩
      case round =>
        obtain ⟨j, rfl, hj, hE⟩ := hrel
        by_cases hlt : j < k
        · have q0 := HC2.out wr hE
          obtain ⟨hxI, j', hj', rfl, hxe⟩ := HB.out j hlt
          obtain ⟨g, rra3, rrc3, hg, qv, _⟩ := HV14.out.keep0 hE j hj'
          rw [← hxe] at qv
          obtain ⟨gw, ow, hwa, hxc⟩ : ∃ gw ow, wa = some ⟨gw, ow, none⟩ ∧ wr.cell? ⟨gw, ow + j, none⟩ = some (.int .i64 (nm.getD j 0)) := by
            have h0 := HNl.out
            rcases HWn.out with e | ⟨gw, ow, e1, e2⟩
            · have : nm = [] := by simpa [lI] using e
              rw [this] at h0
              simp at h0
              omega
            · refine ⟨gw, ow, e1, (HE14.out.trans hE).cell ?_ (by simp)⟩
              rw [e2 j (by simp [lI]; omega)]
              have hkl : j < nm.length := by omega
              simp [lI, hkl]
          have hWl := (HWl.out.keep0 (HE14.out.trans hE))
          have hlk : ((nm.take k).map (allM M)).length = k := by rw [List.length_map, List.length_take, HNl.out]; omega
          have hge : ((nm.take k).map (allM M)).getD j [] = allM M (nm.getD j 0) := by
            have hkl : j < nm.length := by have h0 := HNl.out; omega
            simp [List.getD, hkl, hlt]
          obtain ⟨gl, ol, al, cl, hla, hlc, hlu⟩ := hWl.at_ (k := j) (by omega)
          rw [hge] at hlc hlu
          have K24 : Hid (∀ u, Ext [] wr u → Calls Tryz.prog 24 #[.pointer (some ⟨p1, 0, none⟩), .int .i64 (nm.getD j 0)] u (Al9Post u (allM M (nm.getD j 0)))) := fun u hu => by
            rw [← HAll.out j hlt]
            exact mall_any (HM12.out.keep0 (HE14.out.trans (hE.trans hu))) HK2.out HJ2.out _ hxI
          have hxl : (allM M (nm.getD j 0)).length ≤ 17592186044416 := by
            obtain ⟨o9, ho9, _⟩ := vos_obj HJ2.out hj'
            rw [← hxe] at ho9
            rw [← HAll.out j hlt]
            unfold allM
            rw [ho9]
            simp only
            rw [wordsF_len]
            have := (HJ2.out.info ho9).2.2
            omega
          subst hwa hg hla
          have HLu := hid hlu
          have HEj := hid hE
          have HKb := hid hxl
          clear hE hWl hlk hge hlu hxl hxI hxe hj'
          generalize nm.getD j 0 = xx at *
          obtain ⟨xs, hxs⟩ : ∃ xs, allM M xx = xs := ⟨_, rfl⟩
          rw [hxs] at hlc HLu HKb K24
          clear hxs
          obtain ⟨xn, hxn⟩ : ∃ xn, xs.length = xn := ⟨_, rfl⟩
          have HXn := hid hxn
          rw [hxn] at hlc HKb
          clear hxn
          have HD : Hid (∀ u, Ext [] wr u → u.cell? ⟨z2, 0, none⟩ = some (.slice (some ⟨g, 0, none⟩) k oc2) ∧ u.cell? ⟨g, j * 4, none⟩ = some (.int .i64 xx) ∧ u.cell? ⟨gw, ow + j, none⟩ = some (.int .i64 xx) ∧ u.cell? ⟨gl, ol + j, none⟩ = some (.slice al xn cl)) := fun u hu => ⟨hu.cell q0 (by simp), hu.cell qv (by simp), hu.cell hxc (by simp), hu.cell hlc (by simp)⟩
          have K24X : Hid (∀ u, Ext [] wr u → Calls Tryz.prog 24 #[.pointer (some ⟨p1, 0, none⟩), .int .i64 xx] u (fun e u' => ∃ a10 c10, e = .returned (.slice a10 xn c10) ∧ (u'.cell? ⟨z2, 0, none⟩ = some (.slice (some ⟨g, 0, none⟩) k oc2) ∧ u'.cell? ⟨g, j * 4, none⟩ = some (.int .i64 xx) ∧ u'.cell? ⟨gw, ow + j, none⟩ = some (.int .i64 xx) ∧ u'.cell? ⟨gl, ol + j, none⟩ = some (.slice al xn cl)) ∧ Hid (Ext [] wr u' ∧ ∀ u2, Ext [] u' u2 → Calls Tryz.prog 25 #[.slice a10 xn c10, .slice al xn cl] u2 (SayPost u2 (.bool true))))) := fun u hu =>
            (K24.out u hu).mono (by
              rintro e u' ⟨v10, rfl, ho10, hE10⟩
              obtain ⟨a10, c10, rfl, _⟩ := own_slice ho10
              rw [HXn.out]
              refine ⟨a10, c10, rfl, HD.out u' (hu.trans hE10), hu.trans hE10, fun u2 hu2 => ?_⟩
              exact sameWords_true a10 al xn c10 cl xs u2 (Co.Vs.keep0 (Co.own_vs ho10) (co_ext hu2)) (Co.Vs.keep0 HLu.out (co_ext ((hu.trans hE10).trans hu2))) HXn.out HKb.out)
          clear K24
          have hjk : (j : Int) < k := by omega
          have hj0 : (0 : Int) ≤ j := by omega
          have hjb : (j : Int) ≤ 100000000 := by have := HBl.out; omega
          go_wp2_with fail
          go_region_held3 (fun u => u.cell? ⟨z2, 0, none⟩ = some (.slice (some ⟨g, 0, none⟩) k oc2) ∧ u.cell? ⟨g, j * 4, none⟩ = some (.int .i64 xx) ∧ u.cell? ⟨gw, ow + j, none⟩ = some (.int .i64 xx) ∧ u.cell? ⟨gl, ol + j, none⟩ = some (.slice al xn cl)) (first | exact ⟨q0, qv, hxc, hlc⟩ | exact d21 | exact d20 | fail "S") (first | (go_at_call 24; refine (K24X.out _ (Ext.drew _ _)).mono ?_; rintro e w20 ⟨a10, c10, rfl, d20, H20⟩) | (go_at_call 25; refine (H20.out.2 _ (Ext.refl _ _)).mono ?_; rintro e w21 ⟨rfl, hE21⟩; have d21 := HD.out _ (H20.out.1.trans hE21); have HE21 := hid (H20.out.1.trans hE21); clear hE21) | fail "no arm")
          clear d20 d21 q0 qv hxc hlc
          go_wp2_with fail
          go_roundw
          case rel => exact ⟨j + 1, by go_num, by omega, HEj.out.trans HE21.out⟩
          case measure => simp [intOf]; omega
        · obtain rfl : j = k := by omega
          have HE := hid hE
          clear hE
          go_wp2_with fail
          go_ret
          exact ⟨rfl, HE12.out.trans (HE14.out.trans HE.out)⟩
end Go.Proofs.YtjbbomokgpoilaaGreatDoor

namespace Go.Proofs.YtjbbomokgpoilaaGreatDoor.memoryCollects
open Go.ChangeShapes Go.WideShapes Go.ChangeAt Go.RowKit

theorem some_bulk {H : Type} (d : DataW H) : 0 < Rows.uptoBulk d := by
  cases d
  case lit l => cases l <;> simp [Rows.uptoBulk]
  all_goals simp [Rows.uptoBulk]
theorem count_bulk {H : Type} : ∀ l : List (DataW H), l.length ≤ Rows.uptoBulkAll l
  | [] => Nat.zero_le _
  | d :: r => by
    have h1 := some_bulk d
    have h2 := count_bulk r
    simp only [Rows.uptoBulkAll, List.length_cons]
    omega
theorem slice_bulk {H : Type} {enc : TypeId × Value → H} {W : World} {fuel : Nat} {t e : TypeId} (hu : Tryz.prog.underlying t = some (.slice e)) {a : Option Addr} {n c : Nat} {d : DataW H} {ps : List MemPlace} (h : DataW.trod enc Tryz.prog W 0 (fun _ => true) true fuel t [.slice a n c] = some (d, ps)) : n ≤ Rows.uptoBulk d := by
  rcases DataW.trod_slice hu h with ⟨hcs, _⟩ | ⟨ad, len, cap, elems, rest, fu, rfl, hcs, hx, _, hlc, _, hel, hE, _, _⟩
  · simp at hcs
    obtain ⟨_, rfl, rfl⟩ := hcs
    exact Nat.zero_le _
  · simp only [List.cons.injEq, Value.slice.injEq, and_true] at hcs
    obtain ⟨rfl, rfl, rfl⟩ := hcs
    simp only [Prod.mk.injEq] at hx
    obtain ⟨rfl, _⟩ := hx
    have := count_bulk (elems.map (·.1))
    simp only [Rows.uptoBulk, List.length_map] at this ⊢
    omega
theorem reads (os : Go.Os) {H : Type} (enc : TypeId × Value → H) : ∃ places, DataW.whole enc Tryz.prog ((World.laidAll Tryz.prog os [("heddle/classes.slots", Rows.laid_heddle_classes_slots)]).forCall (fun _ _ => 0) ⟨#[], #[.int .i64 0, .int .i64 0, .slice none 0 0, .slice none 0 0], []⟩).memory Tryz.f7.params.toList Rows.memoryCollectsSpec.vars false (#[.int .i64 0, .int .i64 0, .slice none 0 0, .slice none 0 0] : Array Value).toList 8 = some ([.lit (.int .i64 0), .lit (.int .i64 0), .nil, .nil], [], places) :=
  ⟨[], by kernel_rfl⟩

set_option maxRecDepth 100000 in
theorem lifted (os : Go.Os) (started : os.Started) (H : Type) (enc : TypeId × Value → H) (F : Stop.Interp) :
    ReturnsInHanded {} Tryz.checked os 7 .any ((Rows.OpenSpec.upto Rows.memoryCollectsSpec).preRow enc Tryz.prog Tryz.f7 Rows.memoryCollectsUptoRow.domain false Rows.memoryCollectsUptoRow.laid) (((Rows.OpenSpec.upto Rows.memoryCollectsSpec).at F).post enc Tryz.prog Tryz.f7 false true false false) := by
  obtain ⟨places, hx⟩ := reads os enc
  refine returnsInHanded_of_row (C := Tryz.checked) (s := Rows.OpenSpec.upto Rows.memoryCollectsSpec) own started (by kernel_rfl) Tryz.func7
    ⟨World.laidAll Tryz.prog os [("heddle/classes.slots", Rows.laid_heddle_classes_slots)], fun _ _ => 0, ⟨#[], #[.int .i64 0, .int .i64 0, .slice none 0 0, .slice none 0 0], []⟩, World.laidAll_os _ _ _, World.shaped_of_ZipB (by kernel_rfl) (by kernel_rfl), rfl, (Input.okWide_of_okWideB (by kernel_rfl)).2,
      OpenSpec.preRow_of_cond 8 hx (by kernel_rfl) (fun k hk => by cases hk; kernel_rfl) (by kernel_rfl) (show laidMetH Tryz.prog [("heddle/classes.slots", Rows.laid_heddle_classes_slots)] _ by rw [MakeChecks.laidMetH_plain _ _ _ (by kernel_rfl)]; exact laidMet_laidAll _ (by kernel_rfl) (by kernel_rfl)),
      by simp only [Assume.holds]; exact ⟨by simp, by simp, fun _ => Modest.zero, by simp, by simp⟩⟩ ?_
  intro W base args ds gs before hval0 hW _ hcond hsz0 hL0 _ _
  have hk := hcond _ rfl
  have hL : laidMetH Tryz.prog [("heddle/classes.slots", Rows.laid_heddle_classes_slots)] W := hL0
  have hval : ∀ (j : Nat) t v, Tryz.f7.params[j]? = some t → args[j]? = some v → Value.okWide Tryz.prog W .any base t v := hval0
  have hW' := hW
  obtain ⟨p, q, hA0, hV, rfl, hfz, hnd⟩ := hW
  have hA : DataW.TrodAll enc Tryz.prog W 0 (fun _ => true) true Tryz.f7.params.toList args.toList ds p := hA0
  rw [Tryz.params7] at hA hval
  obtain ⟨v0, vs0, d0, ds0, p0, q0, hargs, rfl, rfl, h0, r0⟩ := trodAll_cons hA
  obtain ⟨v1, vs1, d1, ds1, p1, q1, rfl, rfl, rfl, h1, r1⟩ := trodAll_cons r0
  obtain ⟨v2, vs2, d2, ds2, p2, q2, rfl, rfl, rfl, h2, r2⟩ := trodAll_cons r1
  obtain ⟨v3, vs3, d3, ds3, p3, q3, rfl, rfl, rfl, h3, r3⟩ := trodAll_cons r2
  obtain ⟨rfl, rfl, rfl⟩ := trodAll_nil r3
  obtain rfl : args = #[v0, v1, v2, v3] := by cases args; simp_all
  obtain ⟨rfl, rfl⟩ := trodVars_none hV
  obtain ⟨a0, rfl, rfl, rfl, w0⟩ := open_int Tryz.underlying3 (hval 0 3 v0 rfl rfl) h0
  obtain ⟨a1, rfl, rfl, rfl, w1⟩ := open_int Tryz.underlying3 (hval 1 3 v1 rfl rfl) h1
  obtain ⟨a2, len2, cap2, rfl⟩ := okWide_slice Tryz.underlying49 (hval 2 49 v2 rfl rfl)
  obtain ⟨a3, len3, cap3, rfl⟩ := okWide_slice Tryz.underlying32 (hval 3 32 v3 rfl rfl)
  have k2 := h2
  have lt2 : ∀ x ∈ p2, x.block < W.heap.size := by obtain ⟨m, hm⟩ := k2; exact DataW.trod_lt m _ _ _ hm
  have k3 := h3
  have lt3 : ∀ x ∈ p3, x.block < W.heap.size := by obtain ⟨m, hm⟩ := k3; exact DataW.trod_lt m _ _ _ hm
  have hsz : (DataW.weightsEach Tryz.prog [3, 3, 49, 32] [_, _, d2, d3]).all (· ≤ reachBytes) = true := hsz0
  have hbk : Rows.uptoBulkAll ([_, _, d2, d3] ++ []) ≤ 1048576 := of_decide_eq_true hk
  have hw2 : ∀ y ∈ d2.weights Tryz.prog 49, y ≤ 140737488351232 := by
    intro y hy
    have := List.all_eq_true.1 hsz y (DataW.weights_mem_each (j := 2) (t := 49) rfl rfl y hy)
    have h2 := of_decide_eq_true this
    simpa [reachBytes] using h2
  obtain ⟨fuel2, hf2⟩ := h2
  have hlb2 := slice_bulk Tryz.underlying49 hf2
  have hq2 : len2 ≤ 1048576 := by
    simp only [List.append_nil, Rows.uptoBulkAll] at hbk
    omega
  obtain ⟨S2, hS2, hSn2⟩ := open_script (n := len2) (c := cap2) hf2 hw2
  subst hSn2
  have hw3 : ∀ y ∈ d3.weights Tryz.prog 32, y ≤ 140737488351232 := by
    intro y hy
    have := List.all_eq_true.1 hsz y (DataW.weights_mem_each (j := 3) (t := 32) rfl rfl y hy)
    have h2 := of_decide_eq_true this
    simpa [reachBytes] using h2
  obtain ⟨fuel3, hf3⟩ := h3
  have hlb3 := slice_bulk Tryz.underlying32 hf3
  have hq3 : len3 ≤ 1048576 := by
    simp only [List.append_nil, Rows.uptoBulkAll] at hbk
    omega
  obtain ⟨b3, c3, X3, hv3, hI3, hb3, hi3⟩ := open_list (v := .slice a3 len3 cap3) hf3 hw3
  simp only [Value.slice.injEq] at hv3
  obtain ⟨rfl, rfl, rfl⟩ := hv3
  clear hA0 hval0
  refine (collWalk a0 a1 a2 _ cap2 S2 _ _ _ X3 W (gl_of hL) hS2 rfl hq2 hI3 rfl hq3 hi3).mono fun e W' ⟨he, hext⟩ => ?_
  subst he
  have bel := hext.below
  exact ⟨_, rfl, _, _, _, [], _, [], hW', trodAll_mk1 (shut_bool Tryz.underlying4 _), (trodAll_cons_mk (shut_int Tryz.underlying3 w0) (trodAll_cons_mk (shut_int Tryz.underlying3 w1) (trodAll_cons_mk (Below.trod laidOut (by kernel_rfl) (of_decide_eq_true (by kernel_rfl)) k2 bel lt2) (trodAll_cons_mk (Below.trod laidOut (by kernel_rfl) (of_decide_eq_true (by kernel_rfl)) k3 bel lt3) trodAll_mk0)))), rfl, bel.frame _, fun h => by cases h⟩

theorem over : Rows.memoryCollectsUptoRow.holds Tryz.pinned (Rows.OpenSpec.upto Rows.memoryCollectsSpec) :=
  OpenClaim.holds_of_cond 7 Tryz.f7 rfl rfl rfl rfl rfl rfl rfl ⟨rfl, rfl, rfl, rfl, rfl⟩ rfl rfl rfl rfl rfl (by kernel_rfl) Tryz.func7 (by kernel_rfl)
    (of_decide_eq_true (by kernel_rfl)) (by unfold Func.isWrapper; first | (rw [if_pos (by decide +kernel)]; kernel_rfl) | (rw [if_neg (by decide +kernel)]; exact ⟨rfl, rfl⟩))
    (fun os started H enc _ F => by rw [OpenClaim.pre_eq_preRow]; exact lifted os started H enc F)

theorem card : Rows.MemoryCollectsUptoCardSaid :=
  Claim7.holds_tied_plain_at .later [] [.data] true (true, "8a1297ce5c09f08ca0307cee4e9cdba2a9392fac5c9d0d4c142f6cef68ab8c06") false over (fun _ h => by cases h) (by kernel_rfl) (fun _ h => by cases h) memoryCollectsUpto_row_tie rfl ⟨rfl, rfl⟩ (by kernel_rfl) rfl
    (fun f fn hf hfn => by
      obtain rfl : f = 7 := Option.some.inj ((show Tryz.prog.funcNamed "heddle/heddlelaw09.MemoryCollects" = some 7 by kernel_rfl).symm.trans hf) |>.symm
      obtain rfl : fn = Tryz.f7 := (Option.some.inj (Tryz.func7.symm.trans hfn)).symm
      exact ⟨by kernel_rfl, fun j t ht => by
        rw [Tryz.params7] at ht
        have hm : t ∈ ([3, 3, 49, 32] : List TypeId) := by simpa using Array.mem_of_getElem? ht
        have hall : (([3, 3, 49, 32] : List TypeId).all fun u => !Tryz.prog.wantsStandIn u) = true := by kernel_rfl
        exact (show Tryz.prog.wantsStandIn t = false by simpa using List.all_eq_true.1 hall t hm)⟩)
    (by kernel_rfl)

end Go.Proofs.YtjbbomokgpoilaaGreatDoor.memoryCollects

namespace Go.Proofs.YtjbbomokgpoilaaGreatDoor
theorem memoryCollects_holds : Rows.MemoryCollectsUptoCardSaid := memoryCollects.card
#print axioms memoryCollects_holds
end Go.Proofs.YtjbbomokgpoilaaGreatDoor
