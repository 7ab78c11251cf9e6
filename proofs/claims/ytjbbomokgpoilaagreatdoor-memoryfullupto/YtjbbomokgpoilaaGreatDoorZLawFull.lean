/-
  An allocation with live roots gives a new object, or has no room behind a whole cycle that left just what the roots reached: the function MemoryFull answers true, where what it reads is of bulk at most 1048576; the table of sizes in the program is what its text lays.
-/
import Derived.Test.YtjbbomokgpoilaaGreatDoorZMFul
import Derived.Test.YtjbbomokgpoilaaGreatDoorZVB
import Derived.Test.YtjbbomokgpoilaaGreatDoorZVC
import Derived.Test.YtjbbomokgpoilaaGreatDoorCards
import Derived.Test.YtjbbomokgpoilaaGreatDoorTie
import Derived.Deep.DeepHandedRow
/-
  The walk through MemoryFull; no statement is proved here.
-/
namespace Go.Proofs.YtjbbomokgpoilaaGreatDoor
open Go.RowKit

theorem grown_mk (x pc : Int) (S : List Oq) (hS : ∀ q ∈ S, 0 ≤ q.V ∧ q.V < 18446744073709551616) (hl : S.length ≤ 1048576) : Mk (grownM x pc S).1 899999999000000000 := by
  have hpg : pgF x ≤ 1024 := by unfold pgF; split <;> omega
  have h := grow_gi S (s := (newM (pgF x) pc x0, [])) (b := 899999999000000000) (i := 0) hS ⟨mk_new9 hpg pc _ (by omega), by simp [newM], by simp [newM], by simp, fun y hy => by cases hy⟩ (jd_new hpg pc) (by omega)
  unfold grownM
  exact h.km

set_option maxRecDepth 100000 in
set_option maxHeartbeats 400000 in
theorem fullWalk (x pc : Int) (a : Option Addr) (n c : Nat) (S : List Oq) (pa : Option Addr) (pn pc2 : Nat) (PS : List Bool) (ra : Option Addr) (rn rc : Nat) (R : List Int) (w : World) (hG : Gl w) (hS : Scr w a S) (hn : S.length = n) (hsm : n ≤ 1048576)
    (hP : Co.Os w pa PS) (hpn : PS.length = pn) (hpb : pn ≤ 140737488351232) (hR : Co.Is w ra R) (hrn : R.length = rn) (hrb : rn ≤ 1048576) (hi : ∀ y ∈ R, I64 y) :
    Calls Tryz.prog 8 #[.int .i64 x, .int .i64 pc, .slice a n c, .slice pa pn pc2, .slice ra rn rc] w (SayPost w (.bool true)) := by
  have K := grown_any w hG x pc a n c S hS hn
  have hSV : ∀ q ∈ S, 0 ≤ q.V ∧ q.V < 18446744073709551616 := fun q hq => by
    obtain ⟨k, hk, rfl⟩ := List.mem_iff_getElem.1 hq
    rcases hS.at_ with e | ⟨b, o, _, hsc⟩
    · rw [e] at hk; simp at hk
    · obtain ⟨_, _, _, _, _, _, hop, _⟩ := hsc k hk
      exact hop.hV
  have hJ : Jd (grownM x pc S).1 [] := grow_jd S hSV (jd_new (by unfold pgF; split <;> omega) pc)
  have hgi := grown_gi x pc S hSV hS.len
  have hsl := hS.len
  have hcy := grown_cy x pc S hSV (by omega)
  have hmk := grown_mk x pc S hSV (by omega)
  have HG := hid hG
  have HR := hid hR
  have Hi := hid hi
  clear hS hn hSV hG hR hi
  generalize grownM x pc S = Rr at *
  obtain ⟨M, L⟩ := Rr
  simp only at hJ hgi hcy hmk
  have hk := hgi.km
  have hok := hgi.ok
  have hln := hgi.ln
  have hgsn := hgi.sn
  have hgcn := hgi.cn
  simp only at hk hok hln hgsn hgcn
  generalize S.length = sl at *
  obtain ⟨l0, hl0, hlv0⟩ := nodes_live M (adrsF L R)
  have hAi := adrsF_i64 hok Hi.out
  have hLi : ∀ y ∈ liveM M (adrsF L R), I64 y := fun y hy => hAi y (List.mem_filter.1 hy).1
  have hAl : (adrsF L R).length = rn := by unfold adrsF; rw [List.length_map]; exact hrn
  have hLl := liveM_len M (adrsF L R)
  rw [hAl] at hLl
  have hV := hJ.vsd hl0 (by omega) hcy
  have h3 := alloc_three hJ hl0 hlv0 PS
  have hak := alloc_mk (b := 10) hk hJ.hv PS 1 (liveM M (adrsF L R)) (by omega)
  have hab := (alloc_mk (b := 899999998999999998) hmk hJ.hv PS 1 (liveM M (adrsF L R)) (by omega)).1.cy
  have hja := hJ.alloc PS 1 (liveM M (adrsF L R))
  have HV := hid hV
  have HJ := hid hJ
  have HK := hid hk
  have HL0 := hid hl0
  have HLv0 := hid hlv0
  have HLi := hid hLi
  have HAi := hid hAi
  have HAl := hid hAl
  have HLl := hid hLl
  have H3 := hid h3
  have HAk := hid hak
  have HJa := hid hja
  have HCb : Hid ((allocM M PS 1 (liveM M (adrsF L R))).1.G.cy ≤ 2147483648) := by show _ ≤ _; omega
  have HP := hid hP
  have HPn := hid hpn
  clear hgi hJ hk hok hl0 hAi hLi hAl hLl hcy hV hlv0 h3 hP hpn hak hja hgsn hmk hab
  go_enter Tryz.func8, Tryz.ntmps8
  go_wp2_with fail
  refine K.mono ?_
  clear K
  rintro e w1 ⟨p1, gv, rfl, ⟨Z1, hm1, hz1, hgv, hE1⟩, _⟩
  simp only at hm1 hgv
  obtain ⟨va, vc, rfl, hVI, _⟩ := own_is hgv
  have HM1 := hid hm1.there
  have HVI := hid hVI
  have HE1 := hid hE1
  obtain ⟨Y1, hY1⟩ : ∃ Y : Nat → Prop, (fun k => Z1 k ∧ k < w1.heap.size) = Y := ⟨_, rfl⟩
  have hZlo : Hid (∀ k, Y1 k → w.heap.size ≤ k ∧ k < w1.heap.size) := fun k hk => by rw [← hY1] at hk; exact ⟨(hz1 k hk.1).1, hk.2⟩
  rw [hY1] at HM1
  clear hm1 hz1 hgv hE1 hVI hY1
  go_wp2_with fail
  refine (mawake_any w1 (HG.out.keep0 HE1.out)).mono ?_
  rintro e w3 ⟨rfl, hE3⟩
  have HM3 := hid (HM1.out.keep0 hE3)
  have K := addresses_any w3 va L.length vc L (HVI.out.keep0 (co_ext hE3)) rfl (by omega) ra rn rc R (HR.out.keep0 (co_ext (HE1.out.trans hE3))) hrn (by omega)
  have HE13 := hid hE3
  have HE3 := hid (HE1.out.trans hE3)
  clear hE3 HM1 HE1 HVI
  go_wp2_with fail
  refine K.mono ?_
  clear K
  rintro e w4 ⟨av, rfl, ho4, hE4⟩
  obtain ⟨aa, ac, rfl, hA4, _⟩ := own_is (l := adrsF L R) ho4
  rw [HAl.out]
  have hE4 := ext_co hE4
  have K := mlive_any (HM3.out.keep0 hE4) HK.out HJ.out aa rn ac (adrsF L R) hA4 HAl.out (by omega) HAi.out
  have HM4 := hid (HM3.out.keep0 hE4)
  have HE4 := hid (HE3.out.trans hE4)
  have HE14 := hid (HE13.out.trans hE4)
  clear ho4 hA4 hE4 HM3 HE3 HE13
  go_wp2_with fail
  refine K.mono ?_
  clear K
  rintro e w5 ⟨lv, rfl, ho5, hE5⟩
  obtain ⟨la, lc, rfl, hL5, hlb5⟩ := own_is (l := liveM M (adrsF L R)) ho5
  have hE5 := ext_co hE5
  have K := mview_any (HM4.out.keep0 hE5) (b := 12) HK.out HJ.out la (liveM M (adrsF L R)).length lc (liveM M (adrsF L R)) hL5 rfl (by have := HLl.out; omega) HLi.out HL0.out
  have HM5 := hid (HM4.out.keep0 hE5)
  have HE5 := hid (HE4.out.trans hE5)
  have HE15 := hid (HE14.out.trans hE5)
  have HL5 := hid hL5
  have HO5 := hid ho5
  have HS14 := hid HE14.out.size
  clear ho5 hL5 hlb5 hE5 HM4 HE4 HE14
  go_wp2_with fail
  refine K.mono ?_
  clear K
  rintro e w6 ⟨v, fa, fc, rra, rrc, rfl, hv1, hv2, hv3, hE6⟩
  obtain ⟨oa, oc, rfl, hv4⟩ := hv1.vl
  have hv5 := Co.own_vs hv3
  have HM6 := hid (HM5.out.keep0 hE6)
  have HE6 := hid (HE5.out.trans hE6)
  have HE16 := hid (HE15.out.trans hE6)
  have HL6 := hid (HL5.out.keep0 (co_ext hE6))
  have HO6 := hid (own_keep0 HO5.out (hE6))
  have HS6 : Hid (∀ u, Ext [] w6 u → Calls Tryz.prog 30 #[.agg #[.slice oa (vosM M (objs M.H.sp)).length oc, .slice fa (fr M.H.R).length fc, .slice rra (vroots (liveM M (adrsF L R))).length rrc, .int .i64 M.G.ph, .int .i64 M.G.cy]] u (SayPost u (.int .i64 0))) := fun u hu =>
    sound_yes u oa _ oc _ fa _ fc _ rra _ rrc _ _ _ (hv4.keep0 hu) rfl (own_keep0 (own_base hv2 (Nat.zero_le _)) hu) rfl (Co.Is.keep0 hv5 (co_ext hu)) rfl HV.out
  have HP6 : Hid (∀ u, Ext [] w6 u → Calls Tryz.prog 31 #[.agg #[.slice oa (vosM M (objs M.H.sp)).length oc, .slice fa (fr M.H.R).length fc, .slice rra (vroots (liveM M (adrsF L R))).length rrc, .int .i64 M.G.ph, .int .i64 M.G.cy], .bool true] u (PdPost u (vosM M (objs M.H.sp)).length (vosM M (objs M.H.sp)) (vroots (liveM M (adrsF L R))) true)) := fun u hu =>
    parted_any u oa _ oc _ fa _ fc _ rra _ rrc _ _ _ true (hv4.keep0 hu) rfl (own_keep0 (own_base hv2 (Nat.zero_le _)) hu) rfl (Co.Is.keep0 hv5 (co_ext hu)) rfl (by have := vroots_len (liveM M (adrsF L R)); have := HLl.out; omega) HV.out
  have HCy : Hid (∀ u, Ext [] w6 u → Calls Tryz.prog 20 #[.pointer (some ⟨p1, 0, none⟩)] u fun e u' => e = .returned (.int .i64 M.G.cy) ∧ u' = u) := fun u hu => cycles_any (HM6.out.keep0 hu)
  clear hv1 hv2 hv3 hv4 hv5 hE6 HM5 HE5 HE15 HL5 HO5
  obtain ⟨on, hon⟩ : ∃ on, (vosM M (objs M.H.sp)).length = on := ⟨_, rfl⟩
  have HOn := hid hon
  rw [hon] at HS6 HP6 ⊢
  clear hon
  generalize (fr M.H.R).length = fn at *
  generalize (vroots (liveM M (adrsF L R))).length = rrn at *
  generalize hgph : (M.G.ph : Int) = gph at *
  generalize hgcy : (M.G.cy : Int) = gcy at *
  clear hgph
  have HGcy := hid hgcy
  clear hgcy
  obtain ⟨W7, hW7⟩ : ∃ W7, w6.alloc (.cells #[.slice oa on oc, .slice fa fn fc, .slice rra rrn rrc, .int .i64 gph, .int .i64 gcy] 40) = W7 := ⟨_, rfl⟩
  obtain ⟨z, hz⟩ : ∃ z, w6.heap.size = z := ⟨_, rfl⟩
  have hE7 : Ext [] w6 W7 := by rw [← hW7]; exact Ext.alloc [] _ _
  have hr7 : W7.heap[z]? = some (.cells #[.slice oa on oc, .slice fa fn fc, .slice rra rrn rrc, .int .i64 gph, .int .i64 gcy] 40 (0, 0)) := by rw [← hW7, ← hz]; exact heap_alloc_new _ _
  have HC : Hid (∀ u, Ext [] W7 u → u.cell? ⟨z, 0, none⟩ = some (.slice oa on oc) ∧ u.cell? ⟨z, 1, none⟩ = some (.slice fa fn fc) ∧ u.cell? ⟨z, 2, none⟩ = some (.slice rra rrn rrc) ∧ u.cell? ⟨z, 3, none⟩ = some (.int .i64 gph) ∧ u.cell? ⟨z, 4, none⟩ = some (.int .i64 gcy)) := fun u hu => by
    have := hu.keep hr7 (by simp)
    refine ⟨?_, ?_, ?_, ?_, ?_⟩ <;> (rw [cell_of_row _ _ _ _ _ _ this]; rfl)
  have HE67 := hid hE7
  have HW7 := hid hW7
  have HZ := hid hz
  clear hE7 hr7 hW7 hz
  go_wp2_with fail
  rw [HW7.out]
  try simp only [HZ.out]
  refine (HS6.out W7 HE67.out).mono ?_
  rintro e w8 ⟨rfl, hE8⟩
  have HE68 := hid (HE67.out.trans hE8)
  obtain ⟨c0, c1, c2, c3, c4⟩ := HC.out w8 hE8
  clear hE8 HC HE67 HW7 HS6
  go_wp2_with fail
  refine (HP6.out w8 HE68.out).mono ?_
  rintro e w9 ⟨wv, C, rfl, hcl, hC, hown, hE9⟩
  obtain ⟨wa, wc, rfl, _⟩ := own_slice hown
  have HCl := hid (hcl.trans HOn.out.symm)
  have HCr := hid hC
  have HWo := hid hown
  have HM9 := hid (HM6.out.keep0 (HE68.out.trans hE9))
  have HS18 := hid (Nat.le_trans HE16.out.size HE68.out.size)
  have HS19 := hid (Nat.le_trans HE16.out.size (Nat.le_trans HE68.out.size hE9.size))
  have HE9 := hid (HE6.out.trans (HE68.out.trans hE9))
  have HE69 := hid (HE68.out.trans hE9)
  have HL9 := hid (HL6.out.keep0 (co_ext (HE68.out.trans hE9)))
  have HCc := hid hcl
  clear hown hcl hC hE9 c0 c1 c2 c3 c4 HM6 HE6 HE68 HL6 HP6
  obtain ⟨nm, hnm⟩ : ∃ nm, ptd (vosM M (objs M.H.sp)) C true on = nm := ⟨_, rfl⟩
  rw [hnm] at HWo ⊢
  have HNm := hid hnm
  clear hnm
  have HApp : Hid (∃ pa4 pc4 w4, (Builtin.append_ #[26, 26] 26 #[.slice (some ⟨w9.heap.size, 0, none⟩) 0 0, .slice pa pn pc2]).run Tryz.prog (w9.alloc (.cells #[] 4)) = .ok (.slice pa4 pn pc4) w4 ∧ Ext [] w9 w4 ∧ Hid (Co.Os w4 pa4 PS ∧ ∀ ad, pa4 = some ad → w9.heap.size ≤ ad.block ∧ ad.block < w4.heap.size)) := by
    have hEu : Ext [] w9 (w9.alloc (.cells #[] 4)) := Ext.alloc _ _ _
    have hown : (w9.alloc (.cells #[] 4)).ownsRow w9.heap.size 4 1 (.slice (some ⟨w9.heap.size, 0, none⟩) 0 0) 0 [] := World.ownsRow_made w9 #[] 0 (Nat.le_refl _) (Nat.zero_le _) rfl
    have hOs := HP.out.keep0 (co_ext (HE9.out.trans hEu))
    obtain ⟨v4, w4, hr, ho, hE4, _⟩ := Co.app_own w9 _ (co_ext hEu) 26 26 4 _ 1 Tryz.underlying26 Co.info4 rfl (by omega) _ 0 [] hown pa pn pc2 (PS.map Value.bool) (by simp [HPn.out]) hOs (fun x hx => by obtain ⟨y, _, rfl⟩ := List.mem_map.1 hx; rfl) (by omega)
    simp only [Nat.zero_add, List.nil_append] at ho
    obtain ⟨pa4, pc4, rfl, _⟩ := own_slice ho
    exact ⟨pa4, pc4, w4, hr, ext_co hE4, Co.own_vs ho, fun ad e => own_lt ho ad.block (by rw [e]; rfl)⟩
  obtain ⟨pa4, pc4, w10, hr10, hE10, HOs⟩ := HApp.out
  have HM10 := hid (HM9.out.keep0 hE10)
  have HL10 := hid (HL9.out.keep0 (co_ext hE10))
  have HG10 := hid (HG.out.keep0 (HE9.out.trans hE10))
  have HWo10 := hid (own_keep0 HWo.out hE10)
  have HE10 := hid hE10
  have hY0 : Hid (¬ Y1 0) := fun q => by have := (hZlo.out 0 q).1; have := HG.out.lt; omega
  have hpd : Hid (∀ ad, pa4 = some ad → ¬ Y1 ad.block ∧ ad.block < w10.heap.size) := fun ad e => ⟨fun q => by have h1 := (HOs.out.2 ad e).1; have h2 := (hZlo.out _ q).2; have := HS19.out; omega, (HOs.out.2 ad e).2⟩
  have K9 := malloc_any (b := 10) HM10.out HK.out HG10.out hY0.out pa4 pn pc4 PS HOs.out.1 HPn.out (by omega) hpd.out 1 la (liveM M (adrsF L R)).length lc (liveM M (adrsF L R)) HL10.out rfl (by have := HLl.out; omega) HLi.out (by omega)
  have hcyc : ∀ u, Ext [] w6 u → Calls Tryz.prog 20 #[.pointer (some ⟨p1, 0, none⟩)] u fun e u' => e = .returned (.int .i64 gcy) ∧ u' = u := HCy.out
  have K20 := hcyc w9 HE69.out
  clear hE10 HApp hcyc HCy hpd hY0
  go_wp2_with fail
  refine met K20 ?_
  clear K20

  go_wp2_with (at_builtin; refine wpList_append_run rfl _ _ 26 rfl _ _ _ rfl rfl hr10 ?_)
  generalize hA : allocM M PS 1 (liveM M (adrsF L R)) = A at *
  clear hA
  obtain ⟨M2, a2, e2⟩ := A
  simp only at K9 H3 HAk HJa HCb
  refine K9.mono ?_
  clear K9
  rintro e w11 ⟨rfl, hm11, hx11⟩
  have HE11 := hid (Fx.on (HE9.out.trans HE10.out) hx11 (fun j hj => (hZlo.out j hj).1))
  have HWn := hid (Co.own_vs (own_fx HWo10.out hx11 (fun j hj _ hY => by have := (hZlo.out j hY).2; have := HS18.out; omega)))
  have HLa := hid (Co.own_vs (own_fx (own_keep0 HO6.out (HE69.out.trans HE10.out)) hx11 (fun j hj _ hY => by have := (hZlo.out j hY).2; have := HS14.out; omega)))
  have HM11 := hid hm11
  clear hm11 hx11 HM10 HM9 HL10 HG10 HWo10 HWo HE10 HE9 HE69 HO6 hr10 HOs HP
  rcases H3.out with ⟨q1, q2⟩ | ⟨q1, q2, q3, q4⟩ | ⟨q1, q2, q3⟩
  · rw [HPn.out] at q1
    subst q2
    clear H3
    rcases q1 with q1 | q1
    · obtain rfl : pn = 0 := by omega
      go_wp2_with fail
      go_ret
      exact ⟨rfl, HE11.out⟩
    · have d1 : decide ((pn : Int) < 1) = false := by simp; omega
      have d2 : decide ((pn : Int) > 8192) = true := by simp; omega
      go_wp2_with fail
      go_ret
      exact ⟨rfl, HE11.out⟩
  · have HF2 := hid q3
    have HLeft := hid q4
    subst q2
    clear H3 q3 q4
    rw [HPn.out] at HF2
    have hN2 := HLeft.out.nodes HJ.out HLv0.out HL0.out
    have hV2 := HJa.out.vsd hN2 (by have := HLl.out; omega) HCb.out
    have K13 := mview_any HM11.out HAk.out.1 HJa.out la (liveM M (adrsF L R)).length lc (liveM M (adrsF L R)) HLa.out rfl (by have := HLl.out; omega) HLi.out hN2
    have HN2 := hid hN2
    have HV2 := hid hV2
    have hph : (M2.G.ph : Int) = 0 := by rw [HLeft.out.ph]; rfl
    have hcy2 : gcy < (M2.G.cy : Int) := by rw [← HGcy.out]; have := HLeft.out.cy; omega
    have hcyd : decide ((M2.G.cy : Int) ≤ gcy) = false := by simpa using hcy2
    clear hN2 hV2
    rw [hph] at K13 HV2
    have HPh := hid hph
    clear hph
    go_wp2_with fail
    refine K13.mono ?_
    clear K13
    rintro e w13 ⟨v2, fa2, fc2, rra2, rrc2, rfl, hv21, hv22, hv23, hE13⟩
    obtain ⟨oa2, oc2, rfl, hv24⟩ := hv21.vl
    have hnames : (vosM M2 (objs M2.H.sp)).map Vo.a = nm := by rw [HLeft.out.names HJ.out HL0.out HLv0.out HCl.out HCr.out, HOn.out]; exact HNm.out
    have hln := congrArg List.length hnames
    rw [List.length_map] at hln
    have hsrt := vos_srt HJa.out
    have hsm2 : (vosM M2 (objs M2.H.sp)).length ≤ 100000000 := HV2.out.ln
    have KF : Hid (∀ u, Ext [] w13 u → ∀ j, j < nm.length → Calls Tryz.prog 32 #[.slice oa2 (vosM M2 (objs M2.H.sp)).length oc2, .int .i64 (nm.getD j 0)] u fun e w' => e = .returned (.int .i64 (j : Nat)) ∧ w' = u) := fun u hu j hj =>
      find_yes u oa2 _ oc2 _ (hv24.keep0 hu) rfl hsm2 hsrt j (by omega) _ (by
        have hj' : j < (vosM M2 (objs M2.H.sp)).length := by omega
        rw [vAt_get hj', ← hnames]
        simp [List.getD, hj'])
    have KP : Hid (∀ u, Ext [] w13 u → Calls Tryz.prog 31 #[.agg #[.slice oa2 (vosM M2 (objs M2.H.sp)).length oc2, .slice fa2 (fr M2.H.R).length fc2, .slice rra2 (vroots (liveM M (adrsF L R))).length rrc2, .int .i64 0, .int .i64 M2.G.cy], .bool false] u (fun e w' => ∃ ba bc, e = .returned (.tuple #[.slice ba 0 bc, .int .i64 0]) ∧ Ext [] u w')) := fun u hu =>
      (parted_any u oa2 _ oc2 _ fa2 _ fc2 _ rra2 _ rrc2 _ _ _ false (hv24.keep0 hu) rfl (own_keep0 (own_base hv22 (Nat.zero_le _)) hu) rfl (Co.Is.keep0 (Co.own_vs hv23) (co_ext hu)) rfl (by have := vroots_len (liveM M (adrsF L R)); have := HLl.out; omega) HV2.out).mono (by
        rintro e w' ⟨v, C2, rfl, q1, q2, q3, q4⟩
        rw [HLeft.out.none HJ.out HLv0.out HL0.out q1 q2] at q3
        obtain ⟨ba, bc, rfl, _⟩ := own_slice q3
        exact ⟨ba, bc, rfl, q4⟩)
    have HLn := hid hln
    have hnb : nm.length ≤ 100000000 := by omega
    have HNb := hid hnb
    have HM13 := hid (HM11.out.keep0 hE13)
    have HE1113 := hid hE13
    have HE13 := hid (HE11.out.trans hE13)
    clear hv21 hv22 hv23 hv24 hE13 hnames hln hsrt hsm2 hnb HLeft HV2 HN2 HAk HJa HM11 hcy2 HCl HCr HCc HCb
    generalize (vosM M2 (objs M2.H.sp)).length = on2 at *
    generalize (fr M2.H.R).length = fn2 at *
    generalize (vroots (liveM M (adrsF L R))).length = rrn2 at *
    obtain ⟨cy2, hcy2⟩ : ∃ cy2, (M2.G.cy : Int) = cy2 := ⟨_, rfl⟩
    have HCy2 := hid hcy2
    rw [hcy2] at hcyd KP ⊢
    clear hcy2
    obtain ⟨W14, hW14⟩ : ∃ W14, w13.alloc (.cells #[.slice oa2 on2 oc2, .slice fa2 fn2 fc2, .slice rra2 rrn2 rrc2, .int .i64 0, .int .i64 cy2] 40) = W14 := ⟨_, rfl⟩
    obtain ⟨z2, hz2⟩ : ∃ z2, w13.heap.size = z2 := ⟨_, rfl⟩
    have hE14 : Ext [] w13 W14 := by rw [← hW14]; exact Ext.alloc [] _ _
    have hr14 : W14.heap[z2]? = some (.cells #[.slice oa2 on2 oc2, .slice fa2 fn2 fc2, .slice rra2 rrn2 rrc2, .int .i64 0, .int .i64 cy2] 40 (0, 0)) := by rw [← hW14, ← hz2]; exact heap_alloc_new _ _
    have HC2 : Hid (∀ u, Ext [] W14 u → u.cell? ⟨z2, 0, none⟩ = some (.slice oa2 on2 oc2) ∧ u.cell? ⟨z2, 1, none⟩ = some (.slice fa2 fn2 fc2) ∧ u.cell? ⟨z2, 2, none⟩ = some (.slice rra2 rrn2 rrc2) ∧ u.cell? ⟨z2, 3, none⟩ = some (.int .i64 0) ∧ u.cell? ⟨z2, 4, none⟩ = some (.int .i64 cy2)) := fun u hu => by
      have := hu.keep hr14 (by simp)
      refine ⟨?_, ?_, ?_, ?_, ?_⟩ <;> (rw [cell_of_row _ _ _ _ _ _ this]; rfl)
    have KFi := fits_any (HM13.out.keep0 hE14) (HG.out.keep0 ((HE13.out.trans hE14))) pn
    rw [HF2.out] at KFi
    have HE134 := hid hE14
    have HE1114 := hid (HE1113.out.trans hE14)
    have HW14 := hid hW14
    have HZ2 := hid hz2
    clear hE14 hr14 hW14 hz2
    go_wp2_with fail
    rw [HW14.out]
    try simp only [HZ2.out]
    refine KFi.mono ?_
    clear KFi
    rintro e w15 ⟨rfl, hE15⟩
    have K20 := cycles_any (HM13.out.keep0 (HE134.out.trans hE15))
    have hphz := phase_any (HM13.out.keep0 (HE134.out.trans hE15))
    rw [HCy2.out] at K20
    rw [HPh.out] at hphz
    have HE15 := hid hE15
    clear hE15
    go_wp2_with fail
    refine met K20 ?_
    clear K20
    go_wp2_with fail
    refine met hphz ?_
    clear hphz
    have hWc : Hid (∀ u, Ext [] w11 u → ∀ j, j < nm.length → ∃ gw ow, wa = some ⟨gw, ow, none⟩ ∧ u.cell? ⟨gw, ow + j, none⟩ = some (.int .i64 (nm.getD j 0))) := fun u hu j hj => by
      rcases HWn.out with e | ⟨gw, ow, e1, e2⟩
      · have : nm = [] := by simpa [lI] using e
        rw [this] at hj
        simp at hj
      · refine ⟨gw, ow, e1, hu.cell ?_ (by simp)⟩
        rw [e2 j (by simp [lI]; omega)]
        simp [lI, hj]
    have hE1113 : Hid (Ext [] w11 W14) := HE1114.out
    have HLn2 := hid HLn.out
    obtain ⟨nl, hnl⟩ : ∃ nl, nm.length = nl := ⟨_, rfl⟩
    rw [hnl] at KF HLn2 HNb hWc ⊢
    clear hnl
    go_wp2_with fail
    go_loopw [23] (fun q wr => ∃ j : Nat, q = .int .i64 j ∧ j ≤ nl ∧ Ext [] w15 wr) (fun q _ => (nl - (intOf q)).toNat)
    case atStart => exact ⟨0, rfl, Nat.zero_le _, Ext.refl _ _⟩
    case round =>
      obtain ⟨j, rfl, hj, hE⟩ := hrel
      obtain ⟨q0, qa, qb, qc, qd⟩ := HC2.out wr (HE15.out.trans hE)
      have hjb : (j : Int) ≤ 100000000 := by have := HNb.out; omega
      by_cases hlt : j < nl
      · obtain ⟨gw, ow, rfl, hxc⟩ := hWc.out wr (hE1113.out.trans (HE15.out.trans hE)) j hlt
        have KFj := fun u (hu : Ext [] wr u) => KF.out u (HE134.out.trans (HE15.out.trans (hE.trans hu))) j hlt
        have HKFj := hid KFj
        have HE := hid hE
        clear hE KFj
        generalize nm.getD j 0 = xx at *
        have hjk : (j : Int) < nl := by omega
        have hj0 : (0 : Int) ≤ j := by omega
        have hjz : decide ((j : Int) < 0) = false := by simp
        go_wp2_with fail
        go_region_held3 (fun u => u.cell? ⟨z2, 0, none⟩ = some (.slice oa2 on2 oc2) ∧ u.cell? ⟨gw, ow + j, none⟩ = some (.int .i64 xx)) (first | exact ⟨q0, hxc⟩ | fail "S") (first | (go_at_call 32; refine met (HKFj.out _ (Ext.drew _ _)) ?_) | fail "no arm")
        clear q0 hxc
        go_wp2_with fail
        go_roundw
        case rel => exact ⟨j + 1, by go_num, by omega, HE.out.trans (Ext.drew _ _)⟩
        case measure => simp [intOf]; omega
      · obtain rfl : j = nl := by omega
        have HE := hid hE
        clear hE
        go_wp2_with fail
        refine (KP.out wr (HE134.out.trans (HE15.out.trans HE.out))).mono ?_
        rintro e w16 ⟨ba, bc, rfl, hE16⟩
        have HE16 := hid hE16
        clear hE16
        go_wp2_with fail
        go_ret
        exact ⟨rfl, (HE13.out.trans HE134.out).trans (HE15.out.trans (HE.out.trans HE16.out))⟩
  · obtain ⟨o, o1, o2, o3, o4⟩ := q3
    have hinf := (HJa.out.info o1).1
    have hI := HAk.out.2.1
    have K12 := minfo_any HM11.out HAk.out.1 a2 (by unfold I64; omega)
    unfold InPost at K12
    rw [o1] at K12
    simp only at K12
    rw [hinf, o4, o2, o3, HPn.out] at K12
    subst q2
    clear H3 o1 o2 o3 o4 hinf
    go_wp2_with fail
    refine K12.mono ?_
    rintro e w12 ⟨hE12, v, x2, s2, t2, er2, rfl, hq, hv⟩
    unfold obV at hq
    simp only [Value.tuple.injEq, Array.mk.injEq, List.cons.injEq, Value.agg.injEq, Value.int.injEq, true_and, and_true] at hq
    obtain ⟨⟨rfl, rfl, rfl⟩, rfl⟩ := hq
    obtain ⟨v0, vc0, rfl, _⟩ := own_slice hv
    have HE12 := hid (HE11.out.trans hE12)
    have hw8 : IntKind.i64.wrap (8 * (pn : Int)) = 8 * (pn : Int) := by rw [IntKind.wrap_i64]; rw [HPn.out] at q1; omega
    clear hv hE12 hI q1
    simp only [List.length_nil]
    go_wp2_with fail
    go_ret
    exact ⟨rfl, HE12.out.trans (Ext.alloc [] _ _)⟩
end Go.Proofs.YtjbbomokgpoilaaGreatDoor

namespace Go.Proofs.YtjbbomokgpoilaaGreatDoor.memoryFull
open Go.ChangeShapes Go.WideShapes Go.ChangeAt Go.RowKit

theorem some_bulk {H : Type} (d : DataW H) : 0 < Rows.uptoBulk d := by
  cases d
  case lit l => cases l <;> simp [Rows.uptoBulk]
  all_goals simp [Rows.uptoBulk]
theorem count_bulk {H : Type} : ∀ l : List (DataW H), l.length ≤ Rows.uptoBulkAll l
  | [] => Nat.zero_le _
  | d :: r => by
    have h1 := some_bulk d
    have h2 := count_bulk r
    simp only [Rows.uptoBulkAll, List.length_cons]
    omega
theorem slice_bulk {H : Type} {enc : TypeId × Value → H} {W : World} {fuel : Nat} {t e : TypeId} (hu : Tryz.prog.underlying t = some (.slice e)) {a : Option Addr} {n c : Nat} {d : DataW H} {ps : List MemPlace} (h : DataW.trod enc Tryz.prog W 0 (fun _ => true) true fuel t [.slice a n c] = some (d, ps)) : n ≤ Rows.uptoBulk d := by
  rcases DataW.trod_slice hu h with ⟨hcs, _⟩ | ⟨ad, len, cap, elems, rest, fu, rfl, hcs, hx, _, hlc, _, hel, hE, _, _⟩
  · simp at hcs
    obtain ⟨_, rfl, rfl⟩ := hcs
    exact Nat.zero_le _
  · simp only [List.cons.injEq, Value.slice.injEq, and_true] at hcs
    obtain ⟨rfl, rfl, rfl⟩ := hcs
    simp only [Prod.mk.injEq] at hx
    obtain ⟨rfl, _⟩ := hx
    have := count_bulk (elems.map (·.1))
    simp only [Rows.uptoBulk, List.length_map] at this ⊢
    omega
theorem reads (os : Go.Os) {H : Type} (enc : TypeId × Value → H) : ∃ places, DataW.whole enc Tryz.prog ((World.laidAll Tryz.prog os [("heddle/classes.slots", Rows.laid_heddle_classes_slots)]).forCall (fun _ _ => 0) ⟨#[], #[.int .i64 0, .int .i64 0, .slice none 0 0, .slice none 0 0, .slice none 0 0], []⟩).memory Tryz.f8.params.toList Rows.memoryFullSpec.vars false (#[.int .i64 0, .int .i64 0, .slice none 0 0, .slice none 0 0, .slice none 0 0] : Array Value).toList 8 = some ([.lit (.int .i64 0), .lit (.int .i64 0), .nil, .nil, .nil], [], places) :=
  ⟨[], by kernel_rfl⟩

set_option maxRecDepth 100000 in
theorem lifted (os : Go.Os) (started : os.Started) (H : Type) (enc : TypeId × Value → H) (F : Stop.Interp) :
    ReturnsInHanded {} Tryz.checked os 8 .any ((Rows.OpenSpec.upto Rows.memoryFullSpec).preRow enc Tryz.prog Tryz.f8 Rows.memoryFullUptoRow.domain false Rows.memoryFullUptoRow.laid) (((Rows.OpenSpec.upto Rows.memoryFullSpec).at F).post enc Tryz.prog Tryz.f8 false true false false) := by
  obtain ⟨places, hx⟩ := reads os enc
  refine returnsInHanded_of_row (C := Tryz.checked) (s := Rows.OpenSpec.upto Rows.memoryFullSpec) own started (by kernel_rfl) Tryz.func8
    ⟨World.laidAll Tryz.prog os [("heddle/classes.slots", Rows.laid_heddle_classes_slots)], fun _ _ => 0, ⟨#[], #[.int .i64 0, .int .i64 0, .slice none 0 0, .slice none 0 0, .slice none 0 0], []⟩, World.laidAll_os _ _ _, World.shaped_of_ZipB (by kernel_rfl) (by kernel_rfl), rfl, (Input.okWide_of_okWideB (by kernel_rfl)).2,
      OpenSpec.preRow_of_cond 8 hx (by kernel_rfl) (fun k hk => by cases hk; kernel_rfl) (by kernel_rfl) (show laidMetH Tryz.prog [("heddle/classes.slots", Rows.laid_heddle_classes_slots)] _ by rw [MakeChecks.laidMetH_plain _ _ _ (by kernel_rfl)]; exact laidMet_laidAll _ (by kernel_rfl) (by kernel_rfl)),
      by simp only [Assume.holds]; exact ⟨by simp, by simp, fun _ => Modest.zero, by simp, by simp⟩⟩ ?_
  intro W base args ds gs before hval0 hW _ hcond hsz0 hL0 _ _
  have hk := hcond _ rfl
  have hL : laidMetH Tryz.prog [("heddle/classes.slots", Rows.laid_heddle_classes_slots)] W := hL0
  have hval : ∀ (j : Nat) t v, Tryz.f8.params[j]? = some t → args[j]? = some v → Value.okWide Tryz.prog W .any base t v := hval0
  have hW' := hW
  obtain ⟨p, q, hA0, hV, rfl, hfz, hnd⟩ := hW
  have hA : DataW.TrodAll enc Tryz.prog W 0 (fun _ => true) true Tryz.f8.params.toList args.toList ds p := hA0
  rw [Tryz.params8] at hA hval
  obtain ⟨v0, vs0, d0, ds0, p0, q0, hargs, rfl, rfl, h0, r0⟩ := trodAll_cons hA
  obtain ⟨v1, vs1, d1, ds1, p1, q1, rfl, rfl, rfl, h1, r1⟩ := trodAll_cons r0
  obtain ⟨v2, vs2, d2, ds2, p2, q2, rfl, rfl, rfl, h2, r2⟩ := trodAll_cons r1
  obtain ⟨v3, vs3, d3, ds3, p3, q3, rfl, rfl, rfl, h3, r3⟩ := trodAll_cons r2
  obtain ⟨v4, vs4, d4, ds4, p4, q4, rfl, rfl, rfl, h4, r4⟩ := trodAll_cons r3
  obtain ⟨rfl, rfl, rfl⟩ := trodAll_nil r4
  obtain rfl : args = #[v0, v1, v2, v3, v4] := by cases args; simp_all
  obtain ⟨rfl, rfl⟩ := trodVars_none hV
  obtain ⟨a0, rfl, rfl, rfl, w0⟩ := open_int Tryz.underlying3 (hval 0 3 v0 rfl rfl) h0
  obtain ⟨a1, rfl, rfl, rfl, w1⟩ := open_int Tryz.underlying3 (hval 1 3 v1 rfl rfl) h1
  obtain ⟨a2, len2, cap2, rfl⟩ := okWide_slice Tryz.underlying49 (hval 2 49 v2 rfl rfl)
  obtain ⟨a3, len3, cap3, rfl⟩ := okWide_slice Tryz.underlying26 (hval 3 26 v3 rfl rfl)
  obtain ⟨a4, len4, cap4, rfl⟩ := okWide_slice Tryz.underlying32 (hval 4 32 v4 rfl rfl)
  have k2 := h2
  have lt2 : ∀ x ∈ p2, x.block < W.heap.size := by obtain ⟨m, hm⟩ := k2; exact DataW.trod_lt m _ _ _ hm
  have k3 := h3
  have lt3 : ∀ x ∈ p3, x.block < W.heap.size := by obtain ⟨m, hm⟩ := k3; exact DataW.trod_lt m _ _ _ hm
  have k4 := h4
  have lt4 : ∀ x ∈ p4, x.block < W.heap.size := by obtain ⟨m, hm⟩ := k4; exact DataW.trod_lt m _ _ _ hm
  have hsz : (DataW.weightsEach Tryz.prog [3, 3, 49, 26, 32] [_, _, d2, d3, d4]).all (· ≤ reachBytes) = true := hsz0
  have hbk : Rows.uptoBulkAll ([_, _, d2, d3, d4] ++ []) ≤ 1048576 := of_decide_eq_true hk
  have hw2 : ∀ y ∈ d2.weights Tryz.prog 49, y ≤ 140737488351232 := by
    intro y hy
    have := List.all_eq_true.1 hsz y (DataW.weights_mem_each (j := 2) (t := 49) rfl rfl y hy)
    have h2 := of_decide_eq_true this
    simpa [reachBytes] using h2
  obtain ⟨fuel2, hf2⟩ := h2
  have hlb2 := slice_bulk Tryz.underlying49 hf2
  have hq2 : len2 ≤ 1048576 := by
    simp only [List.append_nil, Rows.uptoBulkAll] at hbk
    omega
  obtain ⟨S2, hS2, hSn2⟩ := open_script (n := len2) (c := cap2) hf2 hw2
  subst hSn2
  have hw3 : ∀ y ∈ d3.weights Tryz.prog 26, y ≤ 140737488351232 := by
    intro y hy
    have := List.all_eq_true.1 hsz y (DataW.weights_mem_each (j := 3) (t := 26) rfl rfl y hy)
    have h2 := of_decide_eq_true this
    simpa [reachBytes] using h2
  obtain ⟨fuel3, hf3⟩ := h3
  have hlb3 := slice_bulk Tryz.underlying26 hf3
  have hq3 : len3 ≤ 1048576 := by
    simp only [List.append_nil, Rows.uptoBulkAll] at hbk
    omega
  obtain ⟨b3, c3, X3, hv3, hI3, hb3⟩ := open_truths (v := .slice a3 len3 cap3) hf3 hw3
  simp only [Value.slice.injEq] at hv3
  obtain ⟨rfl, rfl, rfl⟩ := hv3
  have hw4 : ∀ y ∈ d4.weights Tryz.prog 32, y ≤ 140737488351232 := by
    intro y hy
    have := List.all_eq_true.1 hsz y (DataW.weights_mem_each (j := 4) (t := 32) rfl rfl y hy)
    have h2 := of_decide_eq_true this
    simpa [reachBytes] using h2
  obtain ⟨fuel4, hf4⟩ := h4
  have hlb4 := slice_bulk Tryz.underlying32 hf4
  have hq4 : len4 ≤ 1048576 := by
    simp only [List.append_nil, Rows.uptoBulkAll] at hbk
    omega
  obtain ⟨b4, c4, X4, hv4, hI4, hb4, hi4⟩ := open_list (v := .slice a4 len4 cap4) hf4 hw4
  simp only [Value.slice.injEq] at hv4
  obtain ⟨rfl, rfl, rfl⟩ := hv4
  clear hA0 hval0
  refine (fullWalk a0 a1 a2 _ cap2 S2 _ _ _ X3 _ _ _ X4 W (gl_of hL) hS2 rfl hq2 hI3 rfl hb3 hI4 rfl hq4 hi4).mono fun e W' ⟨he, hext⟩ => ?_
  subst he
  have bel := hext.below
  exact ⟨_, rfl, _, _, _, [], _, [], hW', trodAll_mk1 (shut_bool Tryz.underlying4 _), (trodAll_cons_mk (shut_int Tryz.underlying3 w0) (trodAll_cons_mk (shut_int Tryz.underlying3 w1) (trodAll_cons_mk (Below.trod laidOut (by kernel_rfl) (of_decide_eq_true (by kernel_rfl)) k2 bel lt2) (trodAll_cons_mk (Below.trod laidOut (by kernel_rfl) (of_decide_eq_true (by kernel_rfl)) k3 bel lt3) (trodAll_cons_mk (Below.trod laidOut (by kernel_rfl) (of_decide_eq_true (by kernel_rfl)) k4 bel lt4) trodAll_mk0))))), rfl, bel.frame _, fun h => by cases h⟩

theorem over : Rows.memoryFullUptoRow.holds Tryz.pinned (Rows.OpenSpec.upto Rows.memoryFullSpec) :=
  OpenClaim.holds_of_cond 8 Tryz.f8 rfl rfl rfl rfl rfl rfl rfl ⟨rfl, rfl, rfl, rfl, rfl⟩ rfl rfl rfl rfl rfl (by kernel_rfl) Tryz.func8 (by kernel_rfl)
    (of_decide_eq_true (by kernel_rfl)) (by unfold Func.isWrapper; first | (rw [if_pos (by decide +kernel)]; kernel_rfl) | (rw [if_neg (by decide +kernel)]; exact ⟨rfl, rfl⟩))
    (fun os started H enc _ F => by rw [OpenClaim.pre_eq_preRow]; exact lifted os started H enc F)

theorem card : Rows.MemoryFullUptoCardSaid :=
  Claim7.holds_tied_plain_at .later [] [.data] true (true, "8a1297ce5c09f08ca0307cee4e9cdba2a9392fac5c9d0d4c142f6cef68ab8c06") false over (fun _ h => by cases h) (by kernel_rfl) (fun _ h => by cases h) memoryFullUpto_row_tie rfl ⟨rfl, rfl⟩ (by kernel_rfl) rfl
    (fun f fn hf hfn => by
      obtain rfl : f = 8 := Option.some.inj ((show Tryz.prog.funcNamed "heddle/heddlelaw09.MemoryFull" = some 8 by kernel_rfl).symm.trans hf) |>.symm
      obtain rfl : fn = Tryz.f8 := (Option.some.inj (Tryz.func8.symm.trans hfn)).symm
      exact ⟨by kernel_rfl, fun j t ht => by
        rw [Tryz.params8] at ht
        have hm : t ∈ ([3, 3, 49, 26, 32] : List TypeId) := by simpa using Array.mem_of_getElem? ht
        have hall : (([3, 3, 49, 26, 32] : List TypeId).all fun u => !Tryz.prog.wantsStandIn u) = true := by kernel_rfl
        exact (show Tryz.prog.wantsStandIn t = false by simpa using List.all_eq_true.1 hall t hm)⟩)
    (by kernel_rfl)

end Go.Proofs.YtjbbomokgpoilaaGreatDoor.memoryFull

namespace Go.Proofs.YtjbbomokgpoilaaGreatDoor
theorem memoryFull_holds : Rows.MemoryFullUptoCardSaid := memoryFull.card
#print axioms memoryFull_holds
end Go.Proofs.YtjbbomokgpoilaaGreatDoor
