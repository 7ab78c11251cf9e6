/-
  Ent, Gro: joined by program; no statement is proved here.
-/
import Derived.Test.YtkknadkcpndnaaaDoorZC
import Derived.Test.YtkknadkcpndnaaaDoorZI
/-
  The iterator over all entries; no statement is proved here.
-/
namespace Go.Proofs.YtkknadkcpndnaaaDoor
open Go.RowKit Go.Shelf
open Pr (Gp sq pl)
attribute [local go_sem] Oper.semAt_some run_store_func wide_fn wide_depth

def eenc (p : Nat × Nat) : Array Value := #[.int .u64 (p.1 : Nat), .int .u64 (p.2 : Nat)]

set_option maxRecDepth 100000 in
set_option maxHeartbeats 4000000 in
theorem entries_gives (n : Nat) (hn : 8 ≤ n) (Bt b o c G : Nat) (T : List Nat) (R : Obj) (hS : Shp T G) (O : World → Nat → Prop) (w : World)
    (hBt : Boxed w Bt 22 (.slice (some ⟨b, o, none⟩) (3 + 17 * G) c)) (hR : w.heap[b]? = some R) (hRc : R.isCells = true) (hT : Wd w (some ⟨b, o, none⟩) T) (hTb : Tb w)
    (hO : ∀ k ∈ [0, Bt, b], ¬ O w k) :
    GivesS Fence.wide n Tryd.prog 78 #[.pointer (some ⟨Bt, 0, none⟩)] eenc O (fun p => p.1 < 18446744073709551616 ∧ p.2 < 18446744073709551616) (fun ys => ys = ents T G) (fun pre => pre <+: ents T G) (8 * G) w := by
  intro l J Jx W1 hl hb hOb hJ hJx hY h0
  have hE1 := below_ext hb
  obtain ⟨tab, htab⟩ : ∃ tab, w.heap[0]? = some tab := ⟨_, Array.getElem?_eq_getElem hTb.lt⟩
  have htc : tab.isCells = true := by
    have := hTb 0 (by omega)
    cases tab with
    | cells cs t m => rfl
    | _ => simp [World.cell?, htab] at this
  have hMk : ∀ k ob, k ∈ [0, Bt, b] → w.heap[k]? = some ob → ob.isCells = true → Mine O k ob W1 := fun k ob hk hob hc => ⟨hE1.keep hob (by simp), hc, fun q => hO k hk (hOb k (lt_of_heap hob) q)⟩
  have hM0 : Mines O [(0, tab), (Bt, .cells #[.slice (some ⟨b, o, none⟩) (3 + 17 * G) c] 22 (0, 0)), (b, R)] W1 := by
    refine Mines.cons (hMk _ _ (by simp) htab htc) (Mines.cons (hMk _ _ (by simp) hBt rfl) (Mines.cons (hMk _ _ (by simp) hR hRc) (Mines.nil _ _)))
  obtain ⟨hJ1, hM1⟩ := mines_new hJ h0 hM0 (.cells #[.func (.yield l) #[] #[]] 91) rfl
  have hE2 := hE1.trans (Ext.alloc [] W1 (.cells #[.func (.yield l) #[] #[]] 91))
  have cT := Boxed.cell (hE2.keep hBt (by simp))
  have K2 := groupsOf_any (some ⟨b, o, none⟩) (3 + 17 * G) c T _ (hT.keep0 hE2) hS.len (by omega) (by rw [hS.g0]; exact hS.gp.le)
  rw [hS.g0] at K2
  have HTW := hid (hT.keep0 hE2)
  have HTb := hid (hTb.keep0 hE2)
  have HR4 := hid (hE2.keep hR (by simp))
  have Htab := hid (hE2.keep htab (by simp))
  have HS := hid hS
  have HJ := hid hJ
  have HJx := hid hJx
  have HY := hid hY
  have HJ1 := hid hJ1
  have HTlen := hid hS.len
  have hG1 := hS.gp.pos
  have hG2 := hS.gp.le
  obtain ⟨z, hz⟩ : ∃ z, z = W1.heap.size := ⟨_, rfl⟩
  have HM1 : Hid (Mines O [(z, .cells #[.func (.yield l) #[] #[]] 91), (0, tab), (Bt, .cells #[.slice (some ⟨b, o, none⟩) (3 + 17 * G) c] 22 (0, 0)), (b, R)] (W1.alloc (.cells #[.func (.yield l) #[] #[]] 91))) := by
    show Mines _ _ _
    rw [hz]; exact hM1
  have HZ := hid hz
  refine callsIn_of_wp_marks Tryd.func78 rfl trivial ?_ rfl
  simp only [Tryd.ntmps78, List.size_toArray, List.length_cons, List.length_nil, Nat.reduceAdd, Nat.reduceSub, Array.replicate_succ, Array.replicate_zero, List.push_toArray, List.append_toArray, List.nil_append, List.cons_append]
  clear hE1 hE2 hMk hM0 hM1 hJ1 hS hJ hJx hY h0 hOb hb hO hBt hR hRc hT hTb htab htc hz
  gi_wp2_with fail
  refine wpIn_wide.2 (wp_scope_straight ((wpIn_wide (n := n)).1 ?_))
  gi_wp2_with fail
  refine wpIn_label ?_
  gi_wp2_with (first | (gi_at_call 62; refine (callsIn_wide.2 K2).mono ?_; rintro _ _ ⟨rfl, rfl⟩))
  clear K2 cT
  have hz1 : W1.heap.size = z := HZ.out.symm
  obtain ⟨W4, hW4⟩ : ∃ W4, W1.alloc (.cells #[.func (.yield l) #[] #[]] 91) = W4 := ⟨_, rfl⟩
  have hz4 : W4.heap.size = z + 1 := by rw [← hW4, ← hz1]; simp
  rw [hW4] at HJ1 HM1 HTW HTb HR4 Htab ⊢
  rw [hz1]
  have hzl : z ≤ W1.heap.size ∧ W1.heap.size ≤ z := by omega
  clear hW4 hz1
  have hJz := hid (show Cal O J W4.heap.size from HJ.out.up (by omega))
  refine wpIn_loop_n G (fun r a W => ∃ (u3 u4 u8 u9 u10 u11 u12 u13 u14 u15 u16 u17 u18 u19 u20 u21 u22 u23 u24 u25 u26 u27 u28 u29 u30 u31 u32 u33 : Value) (Ds : List Nat), a = { tmps := #[.func (.yield l) #[] #[], .pointer (some ⟨Bt, 0, none⟩), .pointer (some ⟨z, 0, none⟩), u3, u4, .slice (some ⟨b, o, none⟩) (3 + 17 * G) c, .int .i64 (G : Nat), .int .i64 (r : Nat), u8, u9, u10, u11, u12, u13, u14, u15, u16, u17, u18, u19, u20, u21, u22, u23, u24, u25, u26, u27, u28, u29, u30, u31, u32, u33], defers := Ds.map mkD } ∧ (J (ents T r) W ∧ Mines O [(z, .cells #[.func (.yield l) #[] #[]] 91), (0, tab), (Bt, .cells #[.slice (some ⟨b, o, none⟩) (3 + 17 * G) c] 22 (0, 0)), (b, R)] W) ∧ W4.heap.size ≤ W.heap.size ∧ Marks Ds W ∧ Ds.Nodup ∧ ∀ D ∈ Ds, W4.heap.size ≤ D ∧ D < W.heap.size) ?start ?step ?last
  case start => exact ⟨undef, undef, undef, undef, undef, undef, undef, undef, undef, undef, undef, undef, undef, undef, undef, undef, undef, undef, undef, undef, undef, undef, undef, undef, undef, undef, undef, undef, [], rfl, ⟨HJ1.out, HM1.out⟩, Nat.le_refl _, fun D hD => by simp at hD, List.nodup_nil, fun D hD => by simp at hD⟩
  case last =>
    rintro _ W ⟨u3, u4, u8, u9, u10, u11, u12, u13, u14, u15, u16, u17, u18, u19, u20, u21, u22, u23, u24, u25, u26, u27, u28, u29, u30, u31, u32, u33, Ds, rfl, ⟨hi, hm⟩, hsz, hM, hN, hD⟩
    have HI := hid hi
    have HMk := hid hM
    have HN := hid hN
    have HD := hid hD
    clear hi hm hM hN hD
    gi_wp2_with fail
    try rw [Exit.noGoto_normal]
    refine leaves_marks Ds W HMk.out HN.out (fun W' hX hDn => ⟨_, results_none rfl _ _ _, ⟨_, rfl⟩, .inl ⟨_, rfl, ?_⟩⟩)
    exact own_marks hJz.out.own Ds W W' HMk.out (fun D hD => (HD.out D hD).1) hX HN.out HI.out hDn
  case step =>
    rintro r _ W hr ⟨u3, u4, u8, u9, u10, u11, u12, u13, u14, u15, u16, u17, u18, u19, u20, u21, u22, u23, u24, u25, u26, u27, u28, u29, u30, u31, u32, u33, Ds, rfl, ⟨hi, hm⟩, hsz, hM, hN, hD⟩
    have hst := mines_new hJz.out hi hm (.cells #[.int .i64 (r : Nat)] 3) rfl
    have HMks := hid (show Marks Ds (W.alloc (.cells #[.int .i64 (r : Nat)] 3)) from fun D hD => (Ext.alloc [] W _).keep (hM D hD) (by simp))
    have HN := hid hN
    have HD := hid hD
    obtain ⟨V, hV⟩ : ∃ V, W.alloc (.cells #[.int .i64 (r : Nat)] 3) = V := ⟨_, rfl⟩
    have hVs : V.heap.size = W.heap.size + 1 := by rw [← hV]; simp
    rw [hV] at hst HMks
    have hri : (r : Int) < G := by omega
    have HSt := hid hst
    obtain ⟨Bx, hBx⟩ : ∃ Bx, W.heap.size = Bx := ⟨_, rfl⟩
    have HW0 := hid hsz
    clear hi hm hM hN hD hst
    gi_wp2_with fail
    try simp only [hV, hBx]
    rw [hBx] at HSt HW0 hVs
    have hDB : ∀ D ∈ Ds, W4.heap.size ≤ D ∧ D < Bx := by intro D hD; rw [← hBx]; exact HD.out D hD
    clear HD hV hBx
    have HDB := hid hDB
    clear hDB
    have hMV := HSt.out.2
    have cT := Boxed.cell (show Boxed V Bt 22 (.slice (some ⟨b, o, none⟩) (3 + 17 * G) c) from (hMV (Bt, _) (by simp)).1)
    have cX := Boxed.cell (show Boxed V Bx 3 (.int .i64 (r : Nat)) from (hMV _ (List.mem_cons_self ..)).1)
    have hRV : V.heap[b]? = some R := (hMV (b, R) (by simp)).1
    obtain ⟨_, _, heq, hTc⟩ := (wd_obj HTW.out HR4.out hRV).at_ (by intro e; have := HTlen.out; rw [e] at this; simp at this; omega)
    cases heq
    have cC := hTc (3 + 17 * r) (by rw [HTlen.out]; omega)
    rw [show T.getD (3 + 17 * r) 0 = cw T r from rfl] at cC
    have hcw := HS.out.cw_lt r
    have KC := fun u => controlAt_any r (by omega) u
    obtain ⟨cx, hcx⟩ : ∃ cx, cw T r = cx := ⟨_, rfl⟩
    rw [hcx] at cC hcw
    have KF := fun u => full_any cx hcw u
    have hm256 := fl_lt256 cx
    obtain ⟨m, hm⟩ : ∃ m, fl cx = m := ⟨_, rfl⟩
    rw [hm] at KF hm256
    have KB := fun u => bits_any m u
    have HHc := hid hcx
    have HHm := hid hm
    have HTc := hid hTc
    clear hMV hRV hTc hcx hm
    gi_wp2_with fail
    refine wpIn_region_heldP (fun u => u.cell? ⟨Bt, 0, none⟩ = some (.slice (some ⟨b, o, none⟩) (3 + 17 * G) c) ∧ u.cell? ⟨Bx, 0, none⟩ = some (.int .i64 (r : Nat)) ∧ u.cell? ⟨b, o + (3 + 17 * r), none⟩ = some (.int .u64 (cx : Nat))) 6 (by kernel_rfl) ?_
    have hS : V.drew.cell? ⟨Bt, 0, none⟩ = some (.slice (some ⟨b, o, none⟩) (3 + 17 * G) c) ∧ V.drew.cell? ⟨Bx, 0, none⟩ = some (.int .i64 (r : Nat)) ∧ V.drew.cell? ⟨b, o + (3 + 17 * r), none⟩ = some (.int .u64 (cx : Nat)) := ⟨cT, cX, cC⟩
    refine wpAnyC_take (i := 0) (v := .slice (some ⟨b, o, none⟩) (3 + 17 * G) c) rfl (by kernel_rfl) (fun _ _ _ h => h) (yieldsR_run rfl rfl (fun _ => rfl) (fun u hu => by obtain ⟨u1, u2, u3⟩ := hu; go_simp)) hS ?_
    simp only [Act.put, List.setIfInBounds_toArray]
    refine wpAnyC_take (i := 1) (v := .int .i64 (r : Nat)) rfl (by kernel_rfl) (fun _ _ _ h => h) (yieldsR_run rfl rfl (fun _ => rfl) (fun u hu => by obtain ⟨u1, u2, u3⟩ := hu; go_simp)) hS ?_
    simp only [Act.put]
    refine wpAnyC_sole (i := 2) rfl (by kernel_rfl) (fun K1 hK1 => ?_)
    go_simp
    refine (callsIn_wide.2 (KC _)).mono ?_
    rintro _ _ ⟨rfl, rfl⟩
    refine hK1 _ _ (.inr hS) ?_
    clear hK1 K1
    refine wpAnyC_take (i := 3) (v := .pointer (some ⟨b, o + (3 + 17 * r), none⟩)) rfl (by kernel_rfl) (fun _ _ _ h => h) (yieldsR_run rfl rfl (fun _ => rfl) (fun u hu => by clear hu; go_simp; rw [if_pos (by omega), show (3 + 17 * (r : Int)).toNat = 3 + 17 * r by omega])) hS ?_
    simp only [Act.put, List.setIfInBounds_toArray]
    refine wpAnyC_take (i := 4) (v := .int .u64 (cx : Nat)) rfl (by kernel_rfl) (fun _ _ _ h => h) (yieldsR_run rfl rfl (fun _ => rfl) (fun u hu => by obtain ⟨u1, u2, u3⟩ := hu; go_simp)) hS ?_
    simp only [Act.put]
    refine wpAnyC_sole (i := 5) rfl (by kernel_rfl) (fun K1 hK1 => ?_)
    go_simp
    refine (callsIn_wide.2 (KF _)).mono ?_
    rintro _ _ ⟨rfl, rfl⟩
    refine hK1 _ _ (.inr hS) ?_
    clear hK1 K1
    refine wpAnyC_sole (i := 6) rfl (by kernel_rfl) (fun K1 hK1 => ?_)
    go_simp
    refine (callsIn_wide.2 (KB _)).mono ?_
    rintro _ _ ⟨rfl, rfl⟩
    refine hK1 _ _ (.inl rfl) ?_
    clear hK1 K1
    refine wpAnyC_doneP (by kernel_rfl) ?_
    gi_wp2_with fail
    have hdr0 := stp_drewN W4.heap.size V 1
    have hMd := HSt.out.2.stp hJz.out HSt.out.1 hdr0
    have hJd := hJz.out.own _ V V.drew none HSt.out.1 hdr0.1 hdr0.2
    obtain ⟨hJm, hMm⟩ := mines_new hJz.out hJd hMd (.cells #[.int .u64 (m : Nat)] 23) rfl
    have hMk2 : Marks Ds (V.drew.alloc (.cells #[.int .u64 (m : Nat)] 23)) := fun D hD => (Ext.alloc [] V.drew _).keep (show V.drew.heap[D]? = _ from HMks.out D hD) (by simp)
    have hbM : Boxed (V.drew.alloc (.cells #[.int .u64 (m : Nat)] 23)) V.drew.heap.size 23 (.int .u64 (m : Nat)) := Boxed.new _ _ _
    have htabV : (V.drew.alloc (.cells #[.int .u64 (m : Nat)] 23)).heap[0]? = some tab := (hMm (0, tab) (by simp)).1
    have hTb2 := tb_obj HTb.out Htab.out htabV
    have h0V : 0 < (V.drew.alloc (.cells #[.int .u64 (m : Nat)] 23)).heap.size := lt_of_heap htabV
    have hV2s : (V.drew.alloc (.cells #[.int .u64 (m : Nat)] 23)).heap.size = Bx + 2 := by rw [World.size_alloc, show V.drew.heap.size = V.heap.size from rfl, hVs]
    obtain ⟨V2, hV2⟩ : ∃ V2, V.drew.alloc (.cells #[.int .u64 (m : Nat)] 23) = V2 := ⟨_, rfl⟩
    obtain ⟨zm, hzm⟩ : ∃ zm, V.drew.heap.size = zm := ⟨_, rfl⟩
    obtain ⟨Mx, hMxe⟩ : ∃ Mx, Mx = (zm, Obj.cells #[.int .u64 (m : Nat)] 23) :: (Bx, Obj.cells #[.int .i64 (r : Nat)] 3) :: [(z, .cells #[.func (.yield l) #[] #[]] 91), (0, tab), (Bt, .cells #[.slice (some ⟨b, o, none⟩) (3 + 17 * G) c] 22 (0, 0)), (b, R)] := ⟨_, rfl⟩
    rw [hzm] at hMm hbM
    rw [← hMxe] at hMm
    rw [hV2] at hJm hMm hMk2 hbM htabV hTb2 h0V hV2s ⊢
    rw [hzm]
    have hzmx : zm = Bx + 1 := by rw [← hzm]; exact hVs
    clear hV2 hzm hJd hMd hdr0 cT cX cC HSt HMks HTc hS KC KF KB
    have HW4 := hid (show W4.heap.size ≤ V2.heap.size by have := HW0.out; omega)
    have hJ2 := hid (show Cal O J V2.heap.size from hJz.out.up HW4.out)
    have hDV : ∀ D ∈ Ds, W4.heap.size ≤ D ∧ D < V2.heap.size := fun D hD => by have := HDB.out D hD; omega
    have HDV := hid hDV
    have h48 : W4.heap.size ≤ V2.heap.size := HW4.out
    have HZM := hid hzmx
    clear hDV hzmx hVs
    refine wpIn_rangeFunc_ownH rfl (by omega) (gf := 88) (lb := #[.pointer (some ⟨zm, 0, none⟩)]) rfl trivial (enters_of Tryd.func88 (by kernel_rfl) rfl)
      (bits_stops (n - 1) (by omega) zm m hm256 V2 hbM hTb2) ktK_t (ktK_b h0V) (Below.refl _ _) (fun _ => rfl)
      (fun ps W' => (J (ents T r ++ esl T r (ps.map Subtype.val)) W' ∧ Mines O Mx W') ∧ Marks Ds W')
      (fun cd ps W' => cd = .exit 0 ∧ (∃ qs, qs <+: ents T r ++ esl T r (ps.map Subtype.val) ∧ Jx qs W') ∧ Marks Ds W')
      (OwnFrom.and (hJ2.out.mines (fun ps : List {i : Nat // i < 8} => ents T r ++ esl T r (ps.map Subtype.val)) _) (marks_own (fun D hD => (HDV.out D hD).2)))
      (fun cd ps A B row hs hg hr => by
        obtain ⟨h1, ⟨qs, h2, h3⟩, h4⟩ := hs
        exact ⟨h1, ⟨qs, h2, HJx.out qs A B row h3 hg (fun r e => ⟨by have := (hr r e).1; omega, (hr r e).2⟩)⟩, marks_own (β := Unit) (fun D hD => (HDV.out D hD).2) () A B row h4 hg hr⟩)
      ⟨⟨by simpa [esl] using hJm, hMm⟩, hMk2⟩
      (fun y a' _ => a' = { tmps := #[.func (.yield l) #[] #[], .pointer (some ⟨Bt, 0, none⟩), .pointer (some ⟨z, 0, none⟩), .pointer (some ⟨Bx, 0, none⟩), .int .i64 (y.val : Nat), .slice (some ⟨b, o, none⟩) (3 + 17 * G) c, .int .i64 (G : Nat), .int .i64 (r : Nat), .bool true, .int .i64 (r : Nat), .slice (some ⟨b, o, none⟩) (3 + 17 * G) c, .int .i64 (r : Nat), .int .i64 (3 + 17 * (r : Int)), .pointer (some ⟨b, o + (3 + 17 * r), none⟩), .int .u64 (cx : Nat), .int .u64 (m : Nat), itv zm, .int .i64 (y.val : Nat), u18, u19, u20, u21, u22, u23, u24, u25, u26, u27, u28, u29, u30, u31, u32, u33], defers := [] })
      (fun y a' _ A B row hs hg hr => hs)
      ?iassign ?ibody ?idone ?istop
    case iassign =>
      rintro l3 ps y W' K hI hK
      gi_wp2
      exact hK _ _ (KeepsFrom.refl _ _) (Kt.refl _) hI rfl
    case istop =>
      rintro D cd ps W' hD hSp ⟨rfl, ⟨qs, hq, hj⟩, hM⟩ hK
      have HF : Hid (∃ ps, ps <+: ents T G ∧ Jx ps W') := by
        refine ⟨qs, hq.trans (List.IsPrefix.trans ?_ (ents_pre T (show r + 1 ≤ G by omega))), hj⟩
        rw [ents_succ]
        refine List.prefix_append_right_inj _ |>.2 ?_
        unfold egr
        rw [HHc.out, HHm.out]
        exact esl_pre T r hSp
      have HM := hid hM
      have HK := hid hK
      have HD := hid hD
      clear hq hj hM hK hD hSp hJm hMm hMk2 hbM htabV hTb2 h0V hV2s
      gi_wp2_with fail
      try rw [Exit.noGoto_normal]
      have hMs : Marks (D :: Ds) W' := fun E hE => by
        rcases List.mem_cons.1 hE with rfl | q
        · exact HK.out
        · exact HM.out E q
      have hNd : (D :: Ds).Nodup := List.nodup_cons.2 ⟨fun hm => by have := HDV.out D hm; have := HD.out; omega, HN.out⟩
      refine leaves_marks (D :: Ds) W' hMs hNd (fun W2 hX hDn => ⟨_, results_none rfl _ _ _, ⟨_, rfl⟩, .inr ?_⟩)
      obtain ⟨q2, h1, h2⟩ := HF.out
      refine ⟨q2, h1, own_marks HJx.out (D :: Ds) W' W2 hMs (fun E hE => ?_) hX hNd h2 hDn⟩
      rcases List.mem_cons.1 hE with rfl | q
      · have := HD.out; omega
      · have := HDV.out E q; omega
    case idone =>
      rintro D ps W' hD hS ⟨⟨hi, hM⟩, hMk⟩ hK
      have hi2 : J (ents T (r + 1)) W' := by
        rw [ents_succ]
        unfold egr
        rw [HHc.out, HHm.out]
        rw [show ps.map Subtype.val = bsF m from hS] at hi
        exact hi
      have hMs : Mines O [(z, .cells #[.func (.yield l) #[] #[]] 91), (0, tab), (Bt, .cells #[.slice (some ⟨b, o, none⟩) (3 + 17 * G) c] 22 (0, 0)), (b, R)] W' := by rw [hMxe] at hM; exact hM.tail.tail
      have HF : Hid ((J (ents T (r + 1)) W' ∧ Mines O [(z, .cells #[.func (.yield l) #[] #[]] 91), (0, tab), (Bt, .cells #[.slice (some ⟨b, o, none⟩) (3 + 17 * G) c] 22 (0, 0)), (b, R)] W') ∧ W4.heap.size ≤ W'.heap.size ∧ Marks (D :: Ds) W' ∧ (D :: Ds).Nodup ∧ ∀ E ∈ D :: Ds, W4.heap.size ≤ E ∧ E < W'.heap.size) := by
        have hDl := lt_of_heap hK
        refine ⟨⟨hi2, hMs⟩, by omega, ?_, List.nodup_cons.2 ⟨fun hm => by have := HDV.out D hm; omega, HN.out⟩, ?_⟩
        · intro E hE
          rcases List.mem_cons.1 hE with rfl | q
          · exact hK
          · exact hMk E q
        · intro E hE
          rcases List.mem_cons.1 hE with rfl | q
          · exact ⟨by omega, hDl⟩
          · exact ⟨(HDV.out E q).1, lt_of_heap (hMk E q)⟩
      clear hi hM hMk hK hD hS hi2 hMs hJm hMm hMk2 hbM htabV hTb2 h0V hV2s
      gi_wp2_with fail
      exact ⟨_, _, _, _, _, _, _, _, _, _, _, _, _, _, _, _, _, _, _, _, _, _, _, _, _, _, _, _, D :: Ds, rfl, HF.out⟩
    case ibody =>
      rintro l3 ps y a' W' hl3 ⟨r3, hr3⟩ ⟨⟨hi, hM⟩, hMk⟩ rfl hlt3
      have hM' := hM
      rw [hMxe] at hM'
      obtain ⟨yv, hyv⟩ : ∃ yv, y.val = yv := ⟨_, rfl⟩
      have hy8 := y.property
      rw [hyv] at hy8
      have KH := fun u => hashAt_any r yv (by omega) (by omega) u
      have KI := fun u => idAt_any r yv (by omega) (by omega) u
      have hhs := HS.out.hs_lt r yv
      have hids := HS.out.id_lt r yv
      obtain ⟨hv, hhv⟩ : ∃ hv, hsw T r yv = hv := ⟨_, rfl⟩
      obtain ⟨dv, hdv⟩ : ∃ dv, idw T r yv = dv := ⟨_, rfl⟩
      rw [hhv] at hhs
      rw [hdv] at hids
      have HSof0 : Hid (∀ u, Mines O Mx u → u.heap[0]? = some tab) := fun u hu => by
        rw [hMxe] at hu
        exact (hu (0, tab) (by simp)).1
      have HSof : Hid (∀ u, Mines O Mx u → u.cell? ⟨Bt, 0, none⟩ = some (.slice (some ⟨b, o, none⟩) (3 + 17 * G) c) ∧ u.cell? ⟨Bx, 0, none⟩ = some (.int .i64 (r : Nat)) ∧ u.cell? ⟨z, 0, none⟩ = some (.func (.yield l) #[] #[]) ∧ u.cell? ⟨b, o + (3 + 17 * r + 1 + 2 * yv), none⟩ = some (.int .u64 (hv : Nat)) ∧ u.cell? ⟨b, o + (3 + 17 * r + 2 + 2 * yv), none⟩ = some (.int .u64 (dv : Nat))) := fun u hu => by
        rw [hMxe] at hu
        have hRu : u.heap[b]? = some R := (hu (b, R) (by simp)).1
        obtain ⟨_, _, heq, hTc⟩ := (wd_obj HTW.out HR4.out hRu).at_ (by intro e; have := HTlen.out; rw [e] at this; simp at this; omega)
        cases heq
        have e1 := hTc (3 + 17 * r + 1 + 2 * yv) (by rw [HTlen.out]; omega)
        have e2 := hTc (3 + 17 * r + 2 + 2 * yv) (by rw [HTlen.out]; omega)
        rw [show T.getD (3 + 17 * r + 1 + 2 * yv) 0 = hsw T r yv from rfl, hhv] at e1
        rw [show T.getD (3 + 17 * r + 2 + 2 * yv) 0 = idw T r yv from rfl, hdv] at e2
        exact ⟨Boxed.cell (show Boxed u Bt 22 _ from (hu (Bt, _) (by simp)).1), Boxed.cell (show Boxed u Bx 3 _ from (hu (Bx, _) (by simp)).1), Boxed.cell (show Boxed u z 91 _ from (hu (z, _) (by simp)).1), e1, e2⟩
      have hdr := stp_drewN V2.heap.size W' 1
      have hS := HSof.out W'.drew (hM.stp hJ2.out hi hdr)
      have hYy := HY.out _ (hv, dv) W'.drew (hJ2.out.own _ _ _ none hi hdr.1 hdr.2) (by
        have e1 := ents_len T r
        have e3 := bsF_fl_len cx
        rw [HHm.out] at e3
        simp only [esl, List.length_append, List.length_map]
        omega) ⟨hhs, hids⟩
      have HSy := hid (show esl T r ((ps ++ [y]).map Subtype.val) = esl T r (ps.map Subtype.val) ++ [(hv, dv)] by rw [List.map_append, List.map_cons, List.map_nil, hyv, esl_snoc, hhv, hdv])
      obtain ⟨fn, tmps, assign, body, hy, hR⟩ := yield_any (l' := l3) (m := n - 1 - 1 - 1) hYy
      have HR' := hid hR
      have HM := hid hM
      have HI := hid hi
      have HMk := hid hMk
      have HT0 := hid (show W'.heap[0]? = some tab from (hM' (0, tab) (by simp)).1)
      clear hYy hR hM hM' hi hMk hr3 hJm hMm hMk2 hbM htabV hTb2 h0V hhv hdv hMxe hV2s
      simp only [hyv]
      clear hyv
      gi_wp2_with fail
      refine wpIn_region_heldC (fun u => u.cell? ⟨Bt, 0, none⟩ = some (.slice (some ⟨b, o, none⟩) (3 + 17 * G) c) ∧ u.cell? ⟨Bx, 0, none⟩ = some (.int .i64 (r : Nat)) ∧ u.cell? ⟨z, 0, none⟩ = some (.func (.yield l) #[] #[]) ∧ u.cell? ⟨b, o + (3 + 17 * r + 1 + 2 * yv), none⟩ = some (.int .u64 (hv : Nat)) ∧ u.cell? ⟨b, o + (3 + 17 * r + 2 + 2 * yv), none⟩ = some (.int .u64 (dv : Nat))) 14 (by kernel_rfl) ?_
      refine wpAnyC_take (i := 0) (v := .func (.yield l) #[] #[]) rfl (by kernel_rfl) (fun _ _ _ h => h) (yieldsR_run rfl rfl (fun _ => rfl) (fun u hu => by obtain ⟨u1, u2, u3, u4, u5⟩ := hu; go_simp)) hS ?_
      simp only [Act.put, List.setIfInBounds_toArray]
      refine wpAnyC_take (i := 1) (v := .slice (some ⟨b, o, none⟩) (3 + 17 * G) c) rfl (by kernel_rfl) (fun _ _ _ h => h) (yieldsR_run rfl rfl (fun _ => rfl) (fun u hu => by obtain ⟨u1, u2, u3, u4, u5⟩ := hu; go_simp)) hS ?_
      simp only [Act.put]
      refine wpAnyC_take (i := 2) (v := .int .i64 (r : Nat)) rfl (by kernel_rfl) (fun _ _ _ h => h) (yieldsR_run rfl rfl (fun _ => rfl) (fun u hu => by obtain ⟨u1, u2, u3, u4, u5⟩ := hu; go_simp)) hS ?_
      simp only [Act.put]
      refine wpAnyC_take (i := 3) (v := .int .i64 (yv : Nat)) rfl (by kernel_rfl) (fun _ _ _ h => h) (yieldsR_run rfl rfl (fun _ => rfl) (fun u hu => by obtain ⟨u1, u2, u3, u4, u5⟩ := hu; go_simp)) hS ?_
      simp only [Act.put]
      refine wpAnyC_take (i := 7) (v := .slice (some ⟨b, o, none⟩) (3 + 17 * G) c) rfl (by kernel_rfl) (fun _ _ _ h => h) (yieldsR_run rfl rfl (fun _ => rfl) (fun u hu => by obtain ⟨u1, u2, u3, u4, u5⟩ := hu; go_simp)) hS ?_
      simp only [Act.put]
      refine wpAnyC_take (i := 8) (v := .int .i64 (r : Nat)) rfl (by kernel_rfl) (fun _ _ _ h => h) (yieldsR_run rfl rfl (fun _ => rfl) (fun u hu => by obtain ⟨u1, u2, u3, u4, u5⟩ := hu; go_simp)) hS ?_
      simp only [Act.put]
      refine wpAnyC_take (i := 9) (v := .int .i64 (yv : Nat)) rfl (by kernel_rfl) (fun _ _ _ h => h) (yieldsR_run rfl rfl (fun _ => rfl) (fun u hu => by obtain ⟨u1, u2, u3, u4, u5⟩ := hu; go_simp)) hS ?_
      simp only [Act.put]
      refine wpAnyC_sole (i := 4) rfl (by kernel_rfl) (fun K1 hK1 => ?_)
      go_simp
      refine ((callsIn_wide.2 (KH _)).inRound l3).mono ?_
      rintro _ _ ⟨rfl, rfl⟩
      refine hK1 _ _ (.inr hS) ?_
      clear hK1 K1
      refine wpAnyC_take (i := 5) (v := .pointer (some ⟨b, o + (3 + 17 * r + 1 + 2 * yv), none⟩)) rfl (by kernel_rfl) (fun _ _ _ h => h) (yieldsR_run rfl rfl (fun _ => rfl) (fun u hu => by clear hu; go_simp; rw [if_pos (by omega), show (3 + 17 * (r : Int) + 1 + 2 * (yv : Int)).toNat = 3 + 17 * r + 1 + 2 * yv by omega])) hS ?_
      simp only [Act.put, List.setIfInBounds_toArray]
      refine wpAnyC_take (i := 6) (v := .int .u64 (hv : Nat)) rfl (by kernel_rfl) (fun _ _ _ h => h) (yieldsR_run rfl rfl (fun _ => rfl) (fun u hu => by obtain ⟨u1, u2, u3, u4, u5⟩ := hu; go_simp)) hS ?_
      simp only [Act.put]
      refine wpAnyC_sole (i := 10) rfl (by kernel_rfl) (fun K1 hK1 => ?_)
      go_simp
      refine ((callsIn_wide.2 (KI _)).inRound l3).mono ?_
      rintro _ _ ⟨rfl, rfl⟩
      refine hK1 _ _ (.inr hS) ?_
      clear hK1 K1
      refine wpAnyC_take (i := 11) (v := .pointer (some ⟨b, o + (3 + 17 * r + 2 + 2 * yv), none⟩)) rfl (by kernel_rfl) (fun _ _ _ h => h) (yieldsR_run rfl rfl (fun _ => rfl) (fun u hu => by clear hu; go_simp; rw [if_pos (by omega), show (3 + 17 * (r : Int) + 2 + 2 * (yv : Int)).toNat = 3 + 17 * r + 2 + 2 * yv by omega])) hS ?_
      simp only [Act.put, List.setIfInBounds_toArray]
      refine wpAnyC_take (i := 12) (v := .int .u64 (dv : Nat)) rfl (by kernel_rfl) (fun _ _ _ h => h) (yieldsR_run rfl rfl (fun _ => rfl) (fun u hu => by obtain ⟨u1, u2, u3, u4, u5⟩ := hu; go_simp)) hS ?_
      simp only [Act.put]
      refine wpAnyC_sole (i := 13) rfl (by kernel_rfl) (fun K1 hK1 => ?_)
      unfold eenc at hy
      go_simp
      refine HR'.out.mono ?_
      rintro e W3 (⟨rfl, hJ3, hk3, hkp3⟩ | ⟨rfl, hJ3, hk3, hkp3⟩)
      · have hM3 := (HM.out.stp hJ2.out HI.out hdr).kc hkp3
        have hS3 := HSof.out W3 hM3
        have h03 : W3.heap[0]? = some tab := (HSof0.out W3 hM3)
        refine hK1 _ _ (.inr hS3) ?_
        clear hK1 K1
        refine wpAnyC_sole (i := 14) rfl (by kernel_rfl) (fun K1 hK1 => ?_)
        go_simp
        refine hK1 _ _ (.inl rfl) ?_
        clear hK1 K1
        refine wpAnyC_done (by kernel_rfl) ?_
        have hk : KeepsFrom W1.heap.size W' W3 := ⟨hk3.size, hk3.same⟩
        have hMk3 : Marks Ds W3 := HMk.out.keeps (fun D hD => by have := (HDV.out D hD).1; omega) hk
        have HF : Hid (KeepsFrom V2.heap.size W' W3 ∧ Kt W' W3 ∧ ((J (ents T r ++ esl T r ((ps ++ [y]).map Subtype.val)) W3 ∧ Mines O Mx W3) ∧ Marks Ds W3)) := by
          refine ⟨keepsFrom_up hk (by omega), fun o ho => ?_, ⟨?_, hM3⟩, hMk3⟩
          · rw [HT0.out] at ho; cases ho; exact h03
          · rw [HSy.out, ← List.append_assoc]; exact hJ3
        clear hJ3 hk3 hkp3 hM3 hS3 h03 hk hMk3
        gi_wp2_with fail
        exact HF.out
      · have hM3 := (HM.out.stp hJ2.out HI.out hdr).kc hkp3
        have hS3 := HSof.out W3 hM3
        have h03 : W3.heap[0]? = some tab := (HSof0.out W3 hM3)
        refine hK1 _ _ (.inr hS3) ?_
        clear hK1 K1
        refine wpAnyC_sole (i := 14) rfl (by kernel_rfl) (fun K1 hK1 => ?_)
        go_simp
        refine hK1 _ _ (.inl rfl) ?_
        clear hK1 K1
        refine wpAnyC_done (by kernel_rfl) ?_
        have hk : KeepsFrom W1.heap.size W' W3 := ⟨hk3.size, hk3.same⟩
        have hMk3 : Marks Ds W3 := HMk.out.keeps (fun D hD => by have := (HDV.out D hD).1; omega) hk
        have HF : Hid (KeepsFrom V2.heap.size W' W3 ∧ (∃ qs, qs <+: ents T r ++ esl T r ((ps ++ [y]).map Subtype.val) ∧ Jx qs W3) ∧ Marks Ds W3) := by
          refine ⟨keepsFrom_up hk (by omega), ⟨_, ?_, hJ3⟩, hMk3⟩
          rw [HSy.out, ← List.append_assoc]
          exact List.prefix_rfl
        clear hJ3 hk3 hkp3 hM3 hS3 h03 hk hMk3
        gi_wp2_with fail
        exact ⟨HF.out.1, rfl, HF.out.2⟩
end Go.Proofs.YtkknadkcpndnaaaDoor

/-
  Grow: a table of other size with the same entries; no statement is proved here.
-/
namespace Go.Proofs.YtkknadkcpndnaaaDoor
open Go.RowKit Go.Shelf
open Pr (Gp GpI sq pl)
attribute [local go_sem] Oper.semAt_some run_store_func wide_fn wide_depth

def TGwPost (T : List Nat) (G M : Nat) (w : World) (e : Ending) (w' : World) : Prop := Ext [] w w' ∧
  ((∃ X g c, Hol X M (ents T G) ∧ e = .returned (.tuple #[.slice (some ⟨g, 0, none⟩) (3 + 17 * M) c, .int .i64 0]) ∧ Tw w' g X ∧ w.heap.size ≤ g) ∨
   (7 * M < T.getD 1 0 ∧ e = .returned (.tuple #[.slice none 0 0, .int .i64 7])))
def GwI (M gG : Nat) (W3 : World) (pre : List (Nat × Nat)) (W : World) : Prop := ∃ X, Hol X M pre ∧ Tw W gG X ∧ Ext [gG] W3 W
def GwX (M gG z : Nat) (W3 : World) (cd : Code) (pre : List (Nat × Nat)) (W : World) : Prop := cd = .ret ∧ pre.length = 7 * M + 1 ∧ Boxed W z 22 (.slice none 0 0) ∧ Boxed W (z + 1) 29 (.int .i64 7) ∧ Ext [gG, z, z + 1] W3 W

set_option maxRecDepth 100000 in
set_option maxHeartbeats 4000000 in
theorem tgrow_any (a : Option Addr) (c : Nat) (T : List Nat) (G M : Nat) (hSd : Sd T G) (hM : Gp M) (w : World) (hT : Wd w a T) (hTb : Tb w) :
    Calls Tryd.prog 18 #[.slice a (3 + 17 * G) c, .int .i64 (M : Nat)] w (TGwPost T G M w) := by
  have hlen := hSd.shp.len
  have hG := hSd.shp.gp.le
  have hMl := hM.le
  have hne : T ≠ [] := by rintro rfl; simp at hlen; omega
  obtain ⟨b, o, rfl, hcc⟩ := hT.at_ hne
  clear hcc
  refine (callsIn_wide (n := 14)).1 ?_
  refine callsIn_of_wp_marks Tryd.func18 rfl trivial ?_ rfl
  simp only [Tryd.ntmps18, List.size_toArray, List.length_cons, List.length_nil, Nat.reduceAdd, Nat.reduceSub, Array.replicate_succ, Array.replicate_zero, List.push_toArray, List.append_toArray, List.nil_append, List.cons_append]
  obtain ⟨z, hz⟩ : ∃ z, w.heap.size = z := ⟨_, rfl⟩
  have hbz : b < z := by
    obtain ⟨b', o', e, hc⟩ := hT.at_ hne
    cases e
    have := block_lt_of_cell (hc 0 (by rw [hlen]; omega))
    rw [hz] at this; exact this
  have h0z : 0 < z := by rw [← hz]; exact hTb.lt
  obtain ⟨W0, hW0⟩ : ∃ W0, (w.alloc (.cells #[.slice none 0 0] 22)).alloc (.cells #[.int .i64 0] 29) = W0 := ⟨_, rfl⟩
  have hE0 : Ext [] w W0 := by rw [← hW0]; exact (Ext.alloc [] _ _).trans (Ext.alloc [] _ _)
  have b0 : Boxed W0 z 22 (.slice none 0 0) := by rw [← hW0, ← hz]; exact (Boxed.new w 22 _).alloc _
  have b1 : Boxed W0 (z + 1) 29 (.int .i64 0) := by
    have := Boxed.new (w.alloc (.cells #[.slice none 0 0] 22)) 29 (.int .i64 0)
    rw [hW0, World.size_alloc, hz] at this; exact this
  have K0 := sound_true (some ⟨b, o, none⟩) c T G hSd _ (hT.keep0 hE0)
  have HE0 := hid hE0
  have Hb0 := hid b0
  have Hb1 := hid b1
  have HT0 := hid (hT.keep0 hE0)
  have HTb0 := hid (hTb.keep0 hE0)
  have HSd := hid hSd
  have HL := hid hlen
  have HZ := hid hz
  have HM := hid hM
  clear hE0 b0 b1 hT hTb hSd hlen hM
  gi_wp2_with fail
  try rw [hW0]
  try simp only [hz]
  clear hW0
  gi_at_call 38
  refine (callsIn_wide.2 K0).mono ?_
  clear K0 hz
  rintro _ w1 ⟨rfl, hX1⟩
  have K1 := tnew_ok M HM.out w1
  have HX1 := hid hX1
  clear hX1
  gi_wp2_with fail
  gi_at_call 25
  refine (callsIn_wide.2 K1).mono ?_
  clear K1
  rintro _ w2 ⟨gG, cG, rfl, hTG, hgG, hX2⟩
  have hX12 := HX1.out.trans hX2
  have Hb0' := hid (show Boxed w2 z 22 _ from hX12.keep Hb0.out (by simp))
  have Hb1' := hid (show Boxed w2 (z + 1) 29 _ from hX12.keep Hb1.out (by simp))
  have HT2 := hid (HT0.out.keep0 hX12)
  have HTb2 := hid (HTb0.out.keep0 hX12)
  have HE2 := hid (HE0.out.trans hX12)
  have HTG := hid hTG
  have hz1g : z + 1 < gG := by
    have h1 : Boxed w1 (z + 1) 29 (.int .i64 0) := HX1.out.keep Hb1.out (by simp)
    have := h1.lt
    omega
  have hg2 : gG < w2.heap.size := hTG.lt
  clear hX2 hX12 HX1 Hb0 Hb1 HT0 HTb0 HE0 hTG
  have K1 := entries_any (some ⟨b, o, none⟩) (3 + 17 * G) c (w2.alloc (.cells #[.slice (some ⟨gG, 0, none⟩) (3 + 17 * M) cG] 22))
  obtain ⟨z2, hz2⟩ : ∃ z2, w2.heap.size = z2 := ⟨_, rfl⟩
  simp only [World.size_alloc, hz2] at K1
  have HZ2 := hid hz2
  have hgz : gG < z2 := by rw [← hz2]; exact hg2
  have ccG := (Boxed.new w2 22 (.slice (some ⟨gG, 0, none⟩) (3 + 17 * M) cG)).cell
  gi_wp2_with (first | (gi_at_call 44; refine (callsIn_wide.2 K1).mono ?_; rintro _ _ ⟨rfl, rfl⟩))
  clear K1
  have hz2' := HZ2.out
  have bg := (Boxed.new w2 22 (.slice (some ⟨gG, 0, none⟩) (3 + 17 * M) cG)).alloc (.cells #[.slice (some ⟨b, o, none⟩) (3 + 17 * G) c] 22)
  have bt := Boxed.new (w2.alloc (.cells #[.slice (some ⟨gG, 0, none⟩) (3 + 17 * M) cG] 22)) 22 (.slice (some ⟨b, o, none⟩) (3 + 17 * G) c)
  have hX3 : Ext [] w2 ((w2.alloc (.cells #[.slice (some ⟨gG, 0, none⟩) (3 + 17 * M) cG] 22)).alloc (.cells #[.slice (some ⟨b, o, none⟩) (3 + 17 * G) c] 22)) := (Ext.alloc [] _ _).trans (Ext.alloc [] _ _)
  obtain ⟨W3, hW3⟩ : ∃ W3, (w2.alloc (.cells #[.slice (some ⟨gG, 0, none⟩) (3 + 17 * M) cG] 22)).alloc (.cells #[.slice (some ⟨b, o, none⟩) (3 + 17 * G) c] 22) = W3 := ⟨_, rfl⟩
  have hs3 : W3.heap.size = z2 + 2 := by rw [← hW3]; simp [hz2']
  simp only [World.size_alloc, hz2'] at bg bt
  rw [hW3] at bg bt hX3
  have hb1 : b < z2 := by omega
  obtain ⟨R, hR1⟩ : ∃ R, w2.heap[b]? = some R := ⟨_, Array.getElem?_eq_getElem (by rw [hz2']; exact hb1)⟩
  have hRc : R.isCells = true := by
    obtain ⟨b', o', e, hc⟩ := HT2.out.at_ hne
    cases e
    have := hc 0 (by rw [HL.out]; omega)
    cases R with
    | cells cs t m => rfl
    | _ => simp [World.cell?, hR1] at this
  have hO3 : ∀ k ∈ [0, z2 + 1, b], ¬ Olist [gG, z, z + 1] W3 k := by
    intro k hk hO
    simp only [Olist, List.mem_cons, List.not_mem_nil, or_false] at hk hO
    omega
  have hEnt := entries_gives 13 (by omega) (z2 + 1) b o c G T R HSd.out.shp (Olist [gG, z, z + 1]) W3 bt (hX3.keep hR1 (by simp)) hRc (HT2.out.keep0 hX3) (HTb2.out.keep0 hX3) hO3
  have HEnt := hid hEnt
  have HX3 := hid hX3
  have Hbg := hid bg
  have HTG3 := hid (HTG.out.keep0 hX3)
  have HTb3 := hid (HTb2.out.keep0 hX3)
  have hel := ents_len T G
  clear bg bt hEnt hR1 hRc hO3 hX3 ccG
  try rw [hW3]
  have hz13 : z2 + 2 ≤ W3.heap.size ∧ W3.heap.size ≤ z2 + 2 := by omega
  clear hW3 hs3 hz2' hz2
  refine loop_givesS rfl (by omega) (gf := 78) (lb := #[.pointer (some ⟨z2 + 1, 0, none⟩)]) rfl trivial (enters_of Tryd.func78 (by kernel_rfl) rfl)
    HEnt.out (fun _ => rfl)
    (GwI M gG W3) (GwX M gG z W3)
    (cal_list (fun s X Y row hs hg hr => by
      obtain ⟨Q, q1, q2, q3⟩ := hs
      exact ⟨Q, q1, tw_own (β := Unit) gG _ () X Y row q2 hg (fun r e => (hr r e).2), ext_own (β := Unit) (Nat.le_refl _) () X Y row q3 hg hr⟩) (fun s W hs k hk => by obtain ⟨Q, q1, q2, q3⟩ := hs; have := q3.size; simp at hk; omega))
    (fun cd => cal_list (fun s X Y row hs hg hr => by
      obtain ⟨e1, e2, q1, q2, q3⟩ := hs
      exact ⟨e1, e2, boxed_own z 22 (fun _ : Unit => .slice none 0 0) () X Y row q1 hg (fun r e => (hr r e).2), boxed_own (z + 1) 29 (fun _ : Unit => .int .i64 7) () X Y row q2 hg (fun r e => (hr r e).2), ext_own (β := Unit) (Nat.le_refl _) () X Y row q3 hg hr⟩)
      (fun s W hs k hk => by obtain ⟨e1, e2, q1, q2, q3⟩ := hs; have := q3.size; simp at hk; omega))
    ⟨newT M, hol_new HM.out, HTG3.out, Ext.refl _ _⟩
    (fun x a' _ => a' = { tmps := #[.slice (some ⟨b, o, none⟩) (3 + 17 * G) c, .int .i64 (M : Nat), undef, undef, .pointer (some ⟨z, 0, none⟩), .pointer (some ⟨z + 1, 0, none⟩), .pointer (some ⟨z2, 0, none⟩), .int .i64 0, .int .u64 (x.1 : Nat), .int .u64 (x.2 : Nat), .slice (some ⟨b, o, none⟩) (3 + 17 * G) c, .bool true, .bool false, .tuple #[.slice (some ⟨gG, 0, none⟩) (3 + 17 * M) cG, .int .i64 0], .int .i64 (M : Nat), .tuple #[.slice (some ⟨gG, 0, none⟩) (3 + 17 * M) cG, .int .i64 0], .slice (some ⟨gG, 0, none⟩) (3 + 17 * M) cG, .int .i64 0, .int .i64 0, .bool false, undef, .slice (some ⟨b, o, none⟩) (3 + 17 * G) c, .func (.func 78) #[] #[.pointer (some ⟨z2 + 1, 0, none⟩)], .int .u64 (x.1 : Nat), .int .u64 (x.2 : Nat), undef, undef, undef, undef, undef, undef], defers := [] }) (fun x a' _ X Y row hs hg hr => hs)
    ?assign ?body ?done ?stop
  case assign =>
    rintro l pre x W K _ hI hK
    unfold eenc
    gi_wp2
    exact hK _ _ (KeepsFrom.refl _ _) (Kc.refl _ _) hI rfl
  case stop =>
    rintro D cd pre W hD hSp ⟨rfl, hpl, q1, q2, q3⟩ hK
    have HF : Hid (7 * M < T.getD 1 0) := by
      have h1 := hSp.length_le
      rw [ents_tot, ← HSd.out.cnt] at h1
      show _ < _
      omega
    have Hq1 := hid q1
    have Hq2 := hid q2
    have Hq3 := hid q3
    have HK := hid hK
    have HD := hid hD
    clear hSp hpl q1 q2 q3 hK hD
    gi_wp2_with fail
    have hP := grownBy_putObj' W D (.deferred none)
    have hx2 := Ext.grown (S := [D]) hP (by simp)
    have hDz := HD.out
    have hr1 : Boxed _ _ _ _ := hx2.keep (show W.heap[z]? = _ from Hq1.out) (by simp; omega)
    have hr2 : Boxed _ _ _ _ := hx2.keep (show W.heap[z + 1]? = _ from Hq2.out) (by simp; omega)
    have hw := HZ.out
    refine ⟨by simp, .inl ⟨_, _, rfl, run_takeDeferred HK.out, _, results_cells2 rfl _ _ ⟨z, 0, none⟩ ⟨z + 1, 0, none⟩ _ _ rfl rfl (load22 hr1) (load29 hr2), ?_, .inr ⟨HF.out, rfl⟩⟩⟩
    exact (((HE2.out.trans HX3.out).on Hq3.out (by simp; omega)).on hx2 (by simp; omega))
  case done =>
    rintro D zs W hD rfl ⟨X, hH, hTw, hX⟩ hK
    have hbg : Boxed W z2 22 (.slice (some ⟨gG, 0, none⟩) (3 + 17 * M) cG) := hX.keep Hbg.out (by simp; omega)
    have cg := hbg.cell
    have hb0 : Boxed W z 22 (.slice none 0 0) := hX.keep (HX3.out.keep Hb0'.out (by simp)) (by simp; omega)
    have hb1 : Boxed W (z + 1) 29 (.int .i64 0) := hX.keep (HX3.out.keep Hb1'.out (by simp)) (by simp; omega)
    have c0 := hb0.cell
    have f0 := hb0.frozen
    have hx1 := Ext.setCell [z] W ⟨z, 0, none⟩ (.slice (some ⟨gG, 0, none⟩) (3 + 17 * M) cG) (by simp)
    have hb1' : Boxed (W.setCell ⟨z, 0, none⟩ (.slice (some ⟨gG, 0, none⟩) (3 + 17 * M) cG)) (z + 1) 29 (.int .i64 0) := hx1.keep hb1 (by simp)
    have c1 := hb1'.cell
    have f1 := hb1'.frozen
    have HX := hid hX
    have HH := hid hH
    have HTw := hid hTw
    have HK := hid hK
    have HD := hid hD
    have Hb0 := hid hb0
    have Hb1 := hid hb1'
    have Hx1 := hid hx1
    clear hX hH hTw hK hD hbg hb0 hb1 hb1' hx1
    gi_wp2_with fail
    have hx3 := Ext.setCell [z + 1] (W.setCell ⟨z, 0, none⟩ (.slice (some ⟨gG, 0, none⟩) (3 + 17 * M) cG)) ⟨z + 1, 0, none⟩ (.int .i64 0) (by simp)
    have hK2 := ((KeepsOthers.setCell W ⟨z, 0, none⟩ (.slice (some ⟨gG, 0, none⟩) (3 + 17 * M) cG)).trans (KeepsOthers.setCell _ ⟨z + 1, 0, none⟩ (.int .i64 0))).same _ _ HK.out rfl
    have hP := grownBy_putObj' ((W.setCell ⟨z, 0, none⟩ (.slice (some ⟨gG, 0, none⟩) (3 + 17 * M) cG)).setCell ⟨z + 1, 0, none⟩ (.int .i64 0)) D (.deferred none)
    have hx2 := Ext.grown (S := [D]) hP (by simp)
    have hDz := HD.out
    have hr1 : Boxed _ _ _ _ := hx2.keep (hx3.keep (Hb0.out.set (.slice (some ⟨gG, 0, none⟩) (3 + 17 * M) cG)) (by simp)) (by simp; omega)
    have hr2 : Boxed _ _ _ _ := hx2.keep (Hb1.out.set (.int .i64 0)) (by simp; omega)
    have hw := HZ.out
    refine ⟨by simp, .inl ⟨_, _, rfl, run_takeDeferred hK2, _, results_cells2 rfl _ _ ⟨z, 0, none⟩ ⟨z + 1, 0, none⟩ _ _ rfl rfl (load22 hr1) (load29 hr2), ?_, .inl ⟨X, gG, cG, HH.out, rfl, ?_, by omega⟩⟩⟩
    · exact ((((HE2.out.trans HX3.out).on HX.out (by simp; omega)).on Hx1.out (by simp; omega)).on hx3 (by simp; omega)).on hx2 (by simp; omega)
    · exact ((HTw.out.keep Hx1.out (by simp; omega)).keep hx3 (by simp; omega)).keep hx2 (by simp; omega)
  case body =>
    rintro l pre x a' W hl ⟨r, hr⟩ ⟨X, hH, hTw, hX⟩ rfl hlt ⟨hxh, hxd⟩
    obtain ⟨xh, xd⟩ := x
    simp only at hxh hxd
    have hbg : Boxed W z2 22 (.slice (some ⟨gG, 0, none⟩) (3 + 17 * M) cG) := hX.keep Hbg.out (by simp; omega)
    have cg := hbg.cell
    have KI := insert_any gG cG M xh xd X hH.sd.shp hxh hxd (by rw [hH.len]; omega) W hTw ((Kt.of_ext hX (by simp; omega)).tb HTb3.out)
    have HH := hid hH
    have HX := hid hX
    clear hH hX hTw hbg hr
    gi_wp2_with fail
    gi_at_call 40
    refine ((callsIn_wide.2 KI).inRound l).mono ?_
    clear KI
    rintro e V ⟨hXV, hres⟩
    rcases hres with ⟨g1, i1, hf, hno, rfl, hTV⟩ | ⟨rfl, _, hno⟩
    · have HF : Hid (KeepsFrom W3.heap.size W V ∧ Kc (Olist [gG, z, z + 1]) W V ∧ GwI M gG W3 (pre ++ [(xh, xd)]) V) := by
        refine ⟨keeps_ext hXV (by simp; omega), kc_list (hXV.mono (by simp)), _, hol_ins HH.out hxh hxd ⟨g1, i1, hf, hno, rfl⟩, hTV, HX.out.trans hXV⟩
      clear hf hno hTV hXV cg
      gi_wp2_with fail
      exact HF.out
    · have hfull := hol_full HH.out (h := xh) (d := xd) hno
      have hb0 : Boxed V z 22 (.slice none 0 0) := (HX.out.trans hXV).keep (HX3.out.keep Hb0'.out (by simp)) (by simp; omega)
      have hb1 : Boxed V (z + 1) 29 (.int .i64 0) := (HX.out.trans hXV).keep (HX3.out.keep Hb1'.out (by simp)) (by simp; omega)
      have c0 := hb0.cell
      have f0 := hb0.frozen
      have hx1 := Ext.setCell [z] V ⟨z, 0, none⟩ (.slice none 0 0) (by simp)
      have hb1' : Boxed (V.setCell ⟨z, 0, none⟩ (.slice none 0 0)) (z + 1) 29 (.int .i64 0) := hx1.keep hb1 (by simp)
      have c1 := hb1'.cell
      have f1 := hb1'.frozen
      have hx3 := Ext.setCell [z + 1] (V.setCell ⟨z, 0, none⟩ (.slice none 0 0)) ⟨z + 1, 0, none⟩ (.int .i64 7) (by simp)
      have hall : Ext [gG, z, z + 1] W ((V.setCell ⟨z, 0, none⟩ (.slice none 0 0)).setCell ⟨z + 1, 0, none⟩ (.int .i64 7)) := ((hXV.mono (by simp)).trans (hx1.mono (by simp))).trans (hx3.mono (by simp))
      have HF : Hid (KeepsFrom W3.heap.size W ((V.setCell ⟨z, 0, none⟩ (.slice none 0 0)).setCell ⟨z + 1, 0, none⟩ (.int .i64 7)) ∧ Kc (Olist [gG, z, z + 1]) W ((V.setCell ⟨z, 0, none⟩ (.slice none 0 0)).setCell ⟨z + 1, 0, none⟩ (.int .i64 7)) ∧ GwX M gG z W3 .ret (pre ++ [(xh, xd)]) ((V.setCell ⟨z, 0, none⟩ (.slice none 0 0)).setCell ⟨z + 1, 0, none⟩ (.int .i64 7))) := by
        refine ⟨keeps_ext hall (by simp; omega), kc_list hall, rfl, by rw [List.length_append, hfull]; rfl, hx3.keep (hb0.set _) (by simp), hb1'.set _, (HX.out.mono (by simp)).trans hall⟩
      clear hno hXV cg hb0 hb1 hx1 hb1' hx3 hall hfull
      gi_wp2_with fail
      exact HF.out
set_option maxRecDepth 100000 in
set_option maxHeartbeats 4000000 in
theorem tgrow_bad (a : Option Addr) (c : Nat) (T : List Nat) (G : Nat) (M : Int) (hSd : Sd T G) (hM : ¬ GpI M) (w : World) (hT : Wd w a T) :
    Calls Tryd.prog 18 #[.slice a (3 + 17 * G) c, .int .i64 M] w (SayPost w (.tuple #[.slice none 0 0, .int .i64 2])) := by
  refine (callsIn_wide (n := 14)).1 ?_
  refine callsIn_of_wp_marks Tryd.func18 rfl trivial ?_ rfl
  simp only [Tryd.ntmps18, List.size_toArray, List.length_cons, List.length_nil, Nat.reduceAdd, Nat.reduceSub, Array.replicate_succ, Array.replicate_zero, List.push_toArray, List.append_toArray, List.nil_append, List.cons_append]
  have hG := hSd.shp.gp.le
  obtain ⟨z, hz⟩ : ∃ z, w.heap.size = z := ⟨_, rfl⟩
  obtain ⟨W0, hW0⟩ : ∃ W0, (w.alloc (.cells #[.slice none 0 0] 22)).alloc (.cells #[.int .i64 0] 29) = W0 := ⟨_, rfl⟩
  have hE0 : Ext [] w W0 := by rw [← hW0]; exact (Ext.alloc [] _ _).trans (Ext.alloc [] _ _)
  have b0 : Boxed W0 z 22 (.slice none 0 0) := by rw [← hW0, ← hz]; exact (Boxed.new w 22 _).alloc _
  have b1 : Boxed W0 (z + 1) 29 (.int .i64 0) := by
    have := Boxed.new (w.alloc (.cells #[.slice none 0 0] 22)) 29 (.int .i64 0)
    rw [hW0, World.size_alloc, hz] at this; exact this
  have K0 := sound_true a c T G hSd _ (hT.keep0 hE0)
  have HE0 := hid hE0
  have Hb0 := hid b0
  have Hb1 := hid b1
  have HZ := hid hz
  have HM := hid hM
  clear hE0 b0 b1 hT hSd hM
  gi_wp2_with fail
  try rw [hW0]
  try simp only [hz]
  clear hW0
  gi_at_call 38
  refine (callsIn_wide.2 K0).mono ?_
  clear K0 hz
  rintro _ w1 ⟨rfl, hX1⟩
  have K1 := tnew_bad M HM.out w1
  have HX1 := hid hX1
  clear hX1
  gi_wp2_with fail
  gi_at_call 25
  refine (callsIn_wide.2 K1).mono ?_
  clear K1
  rintro _ w2 ⟨rfl, rfl⟩
  have hE3 := Ext.alloc [] w2 (.cells #[.slice none 0 0] 22)
  have hb0 : Boxed (w2.alloc (.cells #[.slice none 0 0] 22)) z 22 (.slice none 0 0) := (HX1.out.trans hE3).keep Hb0.out (by simp)
  have hb1 : Boxed (w2.alloc (.cells #[.slice none 0 0] 22)) (z + 1) 29 (.int .i64 0) := (HX1.out.trans hE3).keep Hb1.out (by simp)
  have HE3 := hid ((HE0.out.trans HX1.out).trans hE3)
  clear hE3
  have c0 := hb0.cell
  have f0 := hb0.frozen
  have hx1 := Ext.setCell [z] (w2.alloc (.cells #[.slice none 0 0] 22)) ⟨z, 0, none⟩ (.slice none 0 0) (by simp)
  have hb1' : Boxed ((w2.alloc (.cells #[.slice none 0 0] 22)).setCell ⟨z, 0, none⟩ (.slice none 0 0)) (z + 1) 29 (.int .i64 0) := hx1.keep hb1 (by simp)
  have c1 := hb1'.cell
  have f1 := hb1'.frozen
  have Hx1 := hid hx1
  have Hb0' := hid hb0
  have Hb1' := hid hb1'
  clear hb0 hb1 hx1 hb1'
  gi_wp2_with fail
  have hx3 := Ext.setCell [z + 1] ((w2.alloc (.cells #[.slice none 0 0] 22)).setCell ⟨z, 0, none⟩ (.slice none 0 0)) ⟨z + 1, 0, none⟩ (.int .i64 2) (by simp)
  have hr1 : Boxed _ _ _ _ := hx3.keep (Hb0'.out.set (.slice none 0 0)) (by simp)
  have hr2 : Boxed _ _ _ _ := Hb1'.out.set (.int .i64 2)
  have hw := HZ.out
  refine ⟨_, results_cells2 rfl _ _ ⟨z, 0, none⟩ ⟨z + 1, 0, none⟩ _ _ rfl rfl (load22 hr1) (load29 hr2), rfl, ?_⟩
  exact (HE3.out.on Hx1.out (by simp; omega)).on hx3 (by simp; omega)
end Go.Proofs.YtkknadkcpndnaaaDoor
