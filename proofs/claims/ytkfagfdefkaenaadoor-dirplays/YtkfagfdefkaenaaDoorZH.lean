/-
  Ent, Gro, Fou, Prs, Grw: joined by program; no statement is proved here.
-/
import Derived.Test.YtkfagfdefkaenaaDoorZC
import Derived.Test.YtkfagfdefkaenaaDoorZF
import Derived.Test.YtkfagfdefkaenaaDoorZE
import Derived.Test.YtkfagfdefkaenaaDoorZD
/-
  The iterator over all entries; no statement is proved here.
-/
namespace Go.Proofs.YtkfagfdefkaenaaDoor
open Go.RowKit Go.Shelf
open Pr (Gp sq pl)
attribute [local go_sem] Oper.semAt_some run_store_func wide_fn wide_depth

def eenc (p : Nat × Nat) : Array Value := #[.int .u64 (p.1 : Nat), .int .u64 (p.2 : Nat)]

set_option maxRecDepth 100000 in
set_option maxHeartbeats 4000000 in
theorem entries_gives (n : Nat) (hn : 8 ≤ n) (Bt b o c G : Nat) (T : List Nat) (R : Obj) (hS : Shp T G) (O : World → Nat → Prop) (w : World)
    (hBt : Boxed w Bt 22 (.slice (some ⟨b, o, none⟩) (3 + 17 * G) c)) (hR : w.heap[b]? = some R) (hRc : R.isCells = true) (hT : Wd w (some ⟨b, o, none⟩) T) (hTb : Tb w)
    (hO : ∀ k ∈ [0, Bt, b], ¬ O w k) :
    GivesS Fence.wide n Tryd.prog 126 #[.pointer (some ⟨Bt, 0, none⟩)] eenc O (fun p => p.1 < 18446744073709551616 ∧ p.2 < 18446744073709551616) (fun ys => ys = ents T G) (fun pre => pre <+: ents T G) (ents T G).length w := by
  intro l J Jx W1 hl hb hOb hJ hJx hY h0
  have hE1 := below_ext hb
  obtain ⟨tab, htab⟩ : ∃ tab, w.heap[0]? = some tab := ⟨_, Array.getElem?_eq_getElem hTb.lt⟩
  have htc : tab.isCells = true := by
    have := hTb 0 (by omega)
    cases tab with
    | cells cs t m => rfl
    | _ => simp [World.cell?, htab] at this
  have hMk : ∀ k ob, k ∈ [0, Bt, b] → w.heap[k]? = some ob → ob.isCells = true → Mine O k ob W1 := fun k ob hk hob hc => ⟨hE1.keep hob (by simp), hc, fun q => hO k hk (hOb k (lt_of_heap hob) q)⟩
  have hM0 : Mines O [(0, tab), (Bt, .cells #[.slice (some ⟨b, o, none⟩) (3 + 17 * G) c] 22 (0, 0)), (b, R)] W1 := by
    refine Mines.cons (hMk _ _ (by simp) htab htc) (Mines.cons (hMk _ _ (by simp) hBt rfl) (Mines.cons (hMk _ _ (by simp) hR hRc) (Mines.nil _ _)))
  obtain ⟨hJ1, hM1⟩ := mines_new hJ h0 hM0 (.cells #[.func (.yield l) #[] #[]] 42) rfl
  have hE2 := hE1.trans (Ext.alloc [] W1 (.cells #[.func (.yield l) #[] #[]] 42))
  have cT := Boxed.cell (hE2.keep hBt (by simp))
  have K2 := groupsOf_any (some ⟨b, o, none⟩) (3 + 17 * G) c T _ (hT.keep0 hE2) hS.len (by omega) (by rw [hS.g0]; exact hS.gp.le)
  rw [hS.g0] at K2
  have HTW := hid (hT.keep0 hE2)
  have HTb := hid (hTb.keep0 hE2)
  have HR4 := hid (hE2.keep hR (by simp))
  have Htab := hid (hE2.keep htab (by simp))
  have HS := hid hS
  have HJ := hid hJ
  have HJx := hid hJx
  have HY := hid hY
  have HJ1 := hid hJ1
  have HTlen := hid hS.len
  have hG1 := hS.gp.pos
  have hG2 := hS.gp.le
  obtain ⟨z, hz⟩ : ∃ z, z = W1.heap.size := ⟨_, rfl⟩
  have HM1 : Hid (Mines O [(z, .cells #[.func (.yield l) #[] #[]] 42), (0, tab), (Bt, .cells #[.slice (some ⟨b, o, none⟩) (3 + 17 * G) c] 22 (0, 0)), (b, R)] (W1.alloc (.cells #[.func (.yield l) #[] #[]] 42))) := by
    show Mines _ _ _
    rw [hz]; exact hM1
  have HZ := hid hz
  refine callsIn_of_wp_marks Tryd.func126 rfl trivial ?_ rfl
  simp only [Tryd.ntmps126, List.size_toArray, List.length_cons, List.length_nil, Nat.reduceAdd, Nat.reduceSub, Array.replicate_succ, Array.replicate_zero, List.push_toArray, List.append_toArray, List.nil_append, List.cons_append]
  clear hE1 hE2 hMk hM0 hM1 hJ1 hS hJ hJx hY h0 hOb hb hO hBt hR hRc hT hTb htab htc hz
  gi_wp2_with fail
  refine wpIn_wide.2 (wp_scope_straight ((wpIn_wide (n := n)).1 ?_))
  gi_wp2_with fail
  refine wpIn_label ?_
  gi_wp2_with (first | (gi_at_call 94; refine (callsIn_wide.2 K2).mono ?_; rintro _ _ ⟨rfl, rfl⟩))
  clear K2 cT
  have hz1 : W1.heap.size = z := HZ.out.symm
  obtain ⟨W4, hW4⟩ : ∃ W4, W1.alloc (.cells #[.func (.yield l) #[] #[]] 42) = W4 := ⟨_, rfl⟩
  have hz4 : W4.heap.size = z + 1 := by rw [← hW4, ← hz1]; simp
  rw [hW4] at HJ1 HM1 HTW HTb HR4 Htab ⊢
  rw [hz1]
  have hzl : z ≤ W1.heap.size ∧ W1.heap.size ≤ z := by omega
  clear hW4 hz1
  have hJz := hid (show Cal O J W4.heap.size from HJ.out.up (by omega))
  refine wpIn_loop_n G (fun r a W => ∃ (u3 u4 u8 u9 u10 u11 u12 u13 u14 u15 u16 u17 u18 u19 u20 u21 u22 u23 u24 u25 u26 u27 u28 u29 u30 u31 u32 u33 : Value) (Ds : List Nat), a = { tmps := #[.func (.yield l) #[] #[], .pointer (some ⟨Bt, 0, none⟩), .pointer (some ⟨z, 0, none⟩), u3, u4, .slice (some ⟨b, o, none⟩) (3 + 17 * G) c, .int .i64 (G : Nat), .int .i64 (r : Nat), u8, u9, u10, u11, u12, u13, u14, u15, u16, u17, u18, u19, u20, u21, u22, u23, u24, u25, u26, u27, u28, u29, u30, u31, u32, u33], defers := Ds.map mkD } ∧ (J (ents T r) W ∧ Mines O [(z, .cells #[.func (.yield l) #[] #[]] 42), (0, tab), (Bt, .cells #[.slice (some ⟨b, o, none⟩) (3 + 17 * G) c] 22 (0, 0)), (b, R)] W) ∧ W4.heap.size ≤ W.heap.size ∧ Marks Ds W ∧ Ds.Nodup ∧ ∀ D ∈ Ds, W4.heap.size ≤ D ∧ D < W.heap.size) ?start ?step ?last
  case start => exact ⟨undef, undef, undef, undef, undef, undef, undef, undef, undef, undef, undef, undef, undef, undef, undef, undef, undef, undef, undef, undef, undef, undef, undef, undef, undef, undef, undef, undef, [], rfl, ⟨HJ1.out, HM1.out⟩, Nat.le_refl _, fun D hD => by simp at hD, List.nodup_nil, fun D hD => by simp at hD⟩
  case last =>
    rintro _ W ⟨u3, u4, u8, u9, u10, u11, u12, u13, u14, u15, u16, u17, u18, u19, u20, u21, u22, u23, u24, u25, u26, u27, u28, u29, u30, u31, u32, u33, Ds, rfl, ⟨hi, hm⟩, hsz, hM, hN, hD⟩
    have HI := hid hi
    have HMk := hid hM
    have HN := hid hN
    have HD := hid hD
    clear hi hm hM hN hD
    gi_wp2_with fail
    try rw [Exit.noGoto_normal]
    refine leaves_marks Ds W HMk.out HN.out (fun W' hX hDn => ⟨_, results_none rfl _ _ _, ⟨_, rfl⟩, .inl ⟨_, rfl, ?_⟩⟩)
    exact own_marks hJz.out.own Ds W W' HMk.out (fun D hD => (HD.out D hD).1) hX HN.out HI.out hDn
  case step =>
    rintro r _ W hr ⟨u3, u4, u8, u9, u10, u11, u12, u13, u14, u15, u16, u17, u18, u19, u20, u21, u22, u23, u24, u25, u26, u27, u28, u29, u30, u31, u32, u33, Ds, rfl, ⟨hi, hm⟩, hsz, hM, hN, hD⟩
    have hst := mines_new hJz.out hi hm (.cells #[.int .i64 (r : Nat)] 3) rfl
    have HMks := hid (show Marks Ds (W.alloc (.cells #[.int .i64 (r : Nat)] 3)) from fun D hD => (Ext.alloc [] W _).keep (hM D hD) (by simp))
    have HN := hid hN
    have HD := hid hD
    obtain ⟨V, hV⟩ : ∃ V, W.alloc (.cells #[.int .i64 (r : Nat)] 3) = V := ⟨_, rfl⟩
    have hVs : V.heap.size = W.heap.size + 1 := by rw [← hV]; simp
    rw [hV] at hst HMks
    have hri : (r : Int) < G := by omega
    have HSt := hid hst
    obtain ⟨Bx, hBx⟩ : ∃ Bx, W.heap.size = Bx := ⟨_, rfl⟩
    have HW0 := hid hsz
    clear hi hm hM hN hD hst
    gi_wp2_with fail
    try simp only [hV, hBx]
    rw [hBx] at HSt HW0 hVs
    have hDB : ∀ D ∈ Ds, W4.heap.size ≤ D ∧ D < Bx := by intro D hD; rw [← hBx]; exact HD.out D hD
    clear HD hV hBx
    have HDB := hid hDB
    clear hDB
    have hMV := HSt.out.2
    have cT := Boxed.cell (show Boxed V Bt 22 (.slice (some ⟨b, o, none⟩) (3 + 17 * G) c) from (hMV (Bt, _) (by simp)).1)
    have cX := Boxed.cell (show Boxed V Bx 3 (.int .i64 (r : Nat)) from (hMV _ (List.mem_cons_self ..)).1)
    have hRV : V.heap[b]? = some R := (hMV (b, R) (by simp)).1
    obtain ⟨_, _, heq, hTc⟩ := (wd_obj HTW.out HR4.out hRV).at_ (by intro e; have := HTlen.out; rw [e] at this; simp at this; omega)
    cases heq
    have cC := hTc (3 + 17 * r) (by rw [HTlen.out]; omega)
    rw [show T.getD (3 + 17 * r) 0 = cw T r from rfl] at cC
    have hcw := HS.out.cw_lt r
    have KC := fun u => controlAt_any r (by omega) u
    obtain ⟨cx, hcx⟩ : ∃ cx, cw T r = cx := ⟨_, rfl⟩
    rw [hcx] at cC hcw
    have KF := fun u => full_any cx hcw u
    have hm256 := fl_lt256 cx
    obtain ⟨m, hm⟩ : ∃ m, fl cx = m := ⟨_, rfl⟩
    rw [hm] at KF hm256
    have KB := fun u => bits_any m u
    have HHc := hid hcx
    have HHm := hid hm
    have HTc := hid hTc
    clear hMV hRV hTc hcx hm
    gi_wp2_with fail
    refine wpIn_region_heldP (fun u => u.cell? ⟨Bt, 0, none⟩ = some (.slice (some ⟨b, o, none⟩) (3 + 17 * G) c) ∧ u.cell? ⟨Bx, 0, none⟩ = some (.int .i64 (r : Nat)) ∧ u.cell? ⟨b, o + (3 + 17 * r), none⟩ = some (.int .u64 (cx : Nat))) 6 (by kernel_rfl) ?_
    have hS : V.drew.cell? ⟨Bt, 0, none⟩ = some (.slice (some ⟨b, o, none⟩) (3 + 17 * G) c) ∧ V.drew.cell? ⟨Bx, 0, none⟩ = some (.int .i64 (r : Nat)) ∧ V.drew.cell? ⟨b, o + (3 + 17 * r), none⟩ = some (.int .u64 (cx : Nat)) := ⟨cT, cX, cC⟩
    refine wpAnyC_take (i := 0) (v := .slice (some ⟨b, o, none⟩) (3 + 17 * G) c) rfl (by kernel_rfl) (fun _ _ _ h => h) (yieldsR_run rfl rfl (fun _ => rfl) (fun u hu => by obtain ⟨u1, u2, u3⟩ := hu; go_simp)) hS ?_
    simp only [Act.put, List.setIfInBounds_toArray]
    refine wpAnyC_take (i := 1) (v := .int .i64 (r : Nat)) rfl (by kernel_rfl) (fun _ _ _ h => h) (yieldsR_run rfl rfl (fun _ => rfl) (fun u hu => by obtain ⟨u1, u2, u3⟩ := hu; go_simp)) hS ?_
    simp only [Act.put]
    refine wpAnyC_sole (i := 2) rfl (by kernel_rfl) (fun K1 hK1 => ?_)
    go_simp
    refine (callsIn_wide.2 (KC _)).mono ?_
    rintro _ _ ⟨rfl, rfl⟩
    refine hK1 _ _ (.inr hS) ?_
    clear hK1 K1
    refine wpAnyC_take (i := 3) (v := .pointer (some ⟨b, o + (3 + 17 * r), none⟩)) rfl (by kernel_rfl) (fun _ _ _ h => h) (yieldsR_run rfl rfl (fun _ => rfl) (fun u hu => by clear hu; go_simp; rw [if_pos (by omega), show (3 + 17 * (r : Int)).toNat = 3 + 17 * r by omega])) hS ?_
    simp only [Act.put, List.setIfInBounds_toArray]
    refine wpAnyC_take (i := 4) (v := .int .u64 (cx : Nat)) rfl (by kernel_rfl) (fun _ _ _ h => h) (yieldsR_run rfl rfl (fun _ => rfl) (fun u hu => by obtain ⟨u1, u2, u3⟩ := hu; go_simp)) hS ?_
    simp only [Act.put]
    refine wpAnyC_sole (i := 5) rfl (by kernel_rfl) (fun K1 hK1 => ?_)
    go_simp
    refine (callsIn_wide.2 (KF _)).mono ?_
    rintro _ _ ⟨rfl, rfl⟩
    refine hK1 _ _ (.inr hS) ?_
    clear hK1 K1
    refine wpAnyC_sole (i := 6) rfl (by kernel_rfl) (fun K1 hK1 => ?_)
    go_simp
    refine (callsIn_wide.2 (KB _)).mono ?_
    rintro _ _ ⟨rfl, rfl⟩
    refine hK1 _ _ (.inl rfl) ?_
    clear hK1 K1
    refine wpAnyC_doneP (by kernel_rfl) ?_
    gi_wp2_with fail
    have hdr0 := stp_drewN W4.heap.size V 1
    have hMd := HSt.out.2.stp hJz.out HSt.out.1 hdr0
    have hJd := hJz.out.own _ V V.drew none HSt.out.1 hdr0.1 hdr0.2
    obtain ⟨hJm, hMm⟩ := mines_new hJz.out hJd hMd (.cells #[.int .u64 (m : Nat)] 37) rfl
    have hMk2 : Marks Ds (V.drew.alloc (.cells #[.int .u64 (m : Nat)] 37)) := fun D hD => (Ext.alloc [] V.drew _).keep (show V.drew.heap[D]? = _ from HMks.out D hD) (by simp)
    have hbM : Boxed (V.drew.alloc (.cells #[.int .u64 (m : Nat)] 37)) V.drew.heap.size 37 (.int .u64 (m : Nat)) := Boxed.new _ _ _
    have htabV : (V.drew.alloc (.cells #[.int .u64 (m : Nat)] 37)).heap[0]? = some tab := (hMm (0, tab) (by simp)).1
    have hTb2 := tb_obj HTb.out Htab.out htabV
    have h0V : 0 < (V.drew.alloc (.cells #[.int .u64 (m : Nat)] 37)).heap.size := lt_of_heap htabV
    have hV2s : (V.drew.alloc (.cells #[.int .u64 (m : Nat)] 37)).heap.size = Bx + 2 := by rw [World.size_alloc, show V.drew.heap.size = V.heap.size from rfl, hVs]
    obtain ⟨V2, hV2⟩ : ∃ V2, V.drew.alloc (.cells #[.int .u64 (m : Nat)] 37) = V2 := ⟨_, rfl⟩
    obtain ⟨zm, hzm⟩ : ∃ zm, V.drew.heap.size = zm := ⟨_, rfl⟩
    obtain ⟨Mx, hMxe⟩ : ∃ Mx, Mx = (zm, Obj.cells #[.int .u64 (m : Nat)] 37) :: (Bx, Obj.cells #[.int .i64 (r : Nat)] 3) :: [(z, .cells #[.func (.yield l) #[] #[]] 42), (0, tab), (Bt, .cells #[.slice (some ⟨b, o, none⟩) (3 + 17 * G) c] 22 (0, 0)), (b, R)] := ⟨_, rfl⟩
    rw [hzm] at hMm hbM
    rw [← hMxe] at hMm
    rw [hV2] at hJm hMm hMk2 hbM htabV hTb2 h0V hV2s ⊢
    rw [hzm]
    have hzmx : zm = Bx + 1 := by rw [← hzm]; exact hVs
    clear hV2 hzm hJd hMd hdr0 cT cX cC HSt HMks HTc hS KC KF KB
    have HW4 := hid (show W4.heap.size ≤ V2.heap.size by have := HW0.out; omega)
    have hJ2 := hid (show Cal O J V2.heap.size from hJz.out.up HW4.out)
    have hDV : ∀ D ∈ Ds, W4.heap.size ≤ D ∧ D < V2.heap.size := fun D hD => by have := HDB.out D hD; omega
    have HDV := hid hDV
    have h48 : W4.heap.size ≤ V2.heap.size := HW4.out
    have HZM := hid hzmx
    clear hDV hzmx hVs
    refine wpIn_rangeFunc_ownH rfl (by omega) (gf := 123) (lb := #[.pointer (some ⟨zm, 0, none⟩)]) rfl trivial (enters_of Tryd.func123 (by kernel_rfl) rfl)
      (bits_stops (n - 1) (by omega) zm m hm256 V2 hbM hTb2) ktK_t (ktK_b h0V) (Below.refl _ _) (fun _ => rfl)
      (fun ps W' => (J (ents T r ++ esl T r (ps.map Subtype.val)) W' ∧ Mines O Mx W') ∧ Marks Ds W')
      (fun cd ps W' => cd = .exit 0 ∧ (∃ qs, qs <+: ents T r ++ esl T r (ps.map Subtype.val) ∧ Jx qs W') ∧ Marks Ds W')
      (OwnFrom.and (hJ2.out.mines (fun ps : List {i : Nat // i < 8} => ents T r ++ esl T r (ps.map Subtype.val)) _) (marks_own (fun D hD => (HDV.out D hD).2)))
      (fun cd ps A B row hs hg hr => by
        obtain ⟨h1, ⟨qs, h2, h3⟩, h4⟩ := hs
        exact ⟨h1, ⟨qs, h2, HJx.out qs A B row h3 hg (fun r e => ⟨by have := (hr r e).1; omega, (hr r e).2⟩)⟩, marks_own (β := Unit) (fun D hD => (HDV.out D hD).2) () A B row h4 hg hr⟩)
      ⟨⟨by simpa [esl] using hJm, hMm⟩, hMk2⟩
      (fun y a' _ => a' = { tmps := #[.func (.yield l) #[] #[], .pointer (some ⟨Bt, 0, none⟩), .pointer (some ⟨z, 0, none⟩), .pointer (some ⟨Bx, 0, none⟩), .int .i64 (y.val : Nat), .slice (some ⟨b, o, none⟩) (3 + 17 * G) c, .int .i64 (G : Nat), .int .i64 (r : Nat), .bool true, .int .i64 (r : Nat), .slice (some ⟨b, o, none⟩) (3 + 17 * G) c, .int .i64 (r : Nat), .int .i64 (3 + 17 * (r : Int)), .pointer (some ⟨b, o + (3 + 17 * r), none⟩), .int .u64 (cx : Nat), .int .u64 (m : Nat), itv zm, .int .i64 (y.val : Nat), u18, u19, u20, u21, u22, u23, u24, u25, u26, u27, u28, u29, u30, u31, u32, u33], defers := [] })
      (fun y a' _ A B row hs hg hr => hs)
      ?iassign ?ibody ?idone ?istop
    case iassign =>
      rintro l3 ps y W' K hI hK
      gi_wp2
      exact hK _ _ (KeepsFrom.refl _ _) (Kt.refl _) hI rfl
    case istop =>
      rintro D cd ps W' hD hSp ⟨rfl, ⟨qs, hq, hj⟩, hM⟩ hK
      have HF : Hid (∃ ps, ps <+: ents T G ∧ Jx ps W') := by
        refine ⟨qs, hq.trans (List.IsPrefix.trans ?_ (ents_pre T (show r + 1 ≤ G by omega))), hj⟩
        rw [ents_succ]
        refine List.prefix_append_right_inj _ |>.2 ?_
        unfold egr
        rw [HHc.out, HHm.out]
        exact esl_pre T r hSp
      have HM := hid hM
      have HK := hid hK
      have HD := hid hD
      clear hq hj hM hK hD hSp hJm hMm hMk2 hbM htabV hTb2 h0V hV2s
      gi_wp2_with fail
      try rw [Exit.noGoto_normal]
      have hMs : Marks (D :: Ds) W' := fun E hE => by
        rcases List.mem_cons.1 hE with rfl | q
        · exact HK.out
        · exact HM.out E q
      have hNd : (D :: Ds).Nodup := List.nodup_cons.2 ⟨fun hm => by have := HDV.out D hm; have := HD.out; omega, HN.out⟩
      refine leaves_marks (D :: Ds) W' hMs hNd (fun W2 hX hDn => ⟨_, results_none rfl _ _ _, ⟨_, rfl⟩, .inr ?_⟩)
      obtain ⟨q2, h1, h2⟩ := HF.out
      refine ⟨q2, h1, own_marks HJx.out (D :: Ds) W' W2 hMs (fun E hE => ?_) hX hNd h2 hDn⟩
      rcases List.mem_cons.1 hE with rfl | q
      · have := HD.out; omega
      · have := HDV.out E q; omega
    case idone =>
      rintro D ps W' hD hS ⟨⟨hi, hM⟩, hMk⟩ hK
      have hi2 : J (ents T (r + 1)) W' := by
        rw [ents_succ]
        unfold egr
        rw [HHc.out, HHm.out]
        rw [show ps.map Subtype.val = bsF m from hS] at hi
        exact hi
      have hMs : Mines O [(z, .cells #[.func (.yield l) #[] #[]] 42), (0, tab), (Bt, .cells #[.slice (some ⟨b, o, none⟩) (3 + 17 * G) c] 22 (0, 0)), (b, R)] W' := by rw [hMxe] at hM; exact hM.tail.tail
      have HF : Hid ((J (ents T (r + 1)) W' ∧ Mines O [(z, .cells #[.func (.yield l) #[] #[]] 42), (0, tab), (Bt, .cells #[.slice (some ⟨b, o, none⟩) (3 + 17 * G) c] 22 (0, 0)), (b, R)] W') ∧ W4.heap.size ≤ W'.heap.size ∧ Marks (D :: Ds) W' ∧ (D :: Ds).Nodup ∧ ∀ E ∈ D :: Ds, W4.heap.size ≤ E ∧ E < W'.heap.size) := by
        have hDl := lt_of_heap hK
        refine ⟨⟨hi2, hMs⟩, by omega, ?_, List.nodup_cons.2 ⟨fun hm => by have := HDV.out D hm; omega, HN.out⟩, ?_⟩
        · intro E hE
          rcases List.mem_cons.1 hE with rfl | q
          · exact hK
          · exact hMk E q
        · intro E hE
          rcases List.mem_cons.1 hE with rfl | q
          · exact ⟨by omega, hDl⟩
          · exact ⟨(HDV.out E q).1, lt_of_heap (hMk E q)⟩
      clear hi hM hMk hK hD hS hi2 hMs hJm hMm hMk2 hbM htabV hTb2 h0V hV2s
      gi_wp2_with fail
      exact ⟨_, _, _, _, _, _, _, _, _, _, _, _, _, _, _, _, _, _, _, _, _, _, _, _, _, _, _, _, D :: Ds, rfl, HF.out⟩
    case ibody =>
      rintro l3 ps y a' W' hl3 ⟨r3, hr3⟩ ⟨⟨hi, hM⟩, hMk⟩ rfl hlt3
      have hM' := hM
      rw [hMxe] at hM'
      obtain ⟨yv, hyv⟩ : ∃ yv, y.val = yv := ⟨_, rfl⟩
      have hy8 := y.property
      rw [hyv] at hy8
      have KH := fun u => hashAt_any r yv (by omega) (by omega) u
      have KI := fun u => idAt_any r yv (by omega) (by omega) u
      have hhs := HS.out.hs_lt r yv
      have hids := HS.out.id_lt r yv
      obtain ⟨hv, hhv⟩ : ∃ hv, hsw T r yv = hv := ⟨_, rfl⟩
      obtain ⟨dv, hdv⟩ : ∃ dv, idw T r yv = dv := ⟨_, rfl⟩
      rw [hhv] at hhs
      rw [hdv] at hids
      have HSof0 : Hid (∀ u, Mines O Mx u → u.heap[0]? = some tab) := fun u hu => by
        rw [hMxe] at hu
        exact (hu (0, tab) (by simp)).1
      have HSof : Hid (∀ u, Mines O Mx u → u.cell? ⟨Bt, 0, none⟩ = some (.slice (some ⟨b, o, none⟩) (3 + 17 * G) c) ∧ u.cell? ⟨Bx, 0, none⟩ = some (.int .i64 (r : Nat)) ∧ u.cell? ⟨z, 0, none⟩ = some (.func (.yield l) #[] #[]) ∧ u.cell? ⟨b, o + (3 + 17 * r + 1 + 2 * yv), none⟩ = some (.int .u64 (hv : Nat)) ∧ u.cell? ⟨b, o + (3 + 17 * r + 2 + 2 * yv), none⟩ = some (.int .u64 (dv : Nat))) := fun u hu => by
        rw [hMxe] at hu
        have hRu : u.heap[b]? = some R := (hu (b, R) (by simp)).1
        obtain ⟨_, _, heq, hTc⟩ := (wd_obj HTW.out HR4.out hRu).at_ (by intro e; have := HTlen.out; rw [e] at this; simp at this; omega)
        cases heq
        have e1 := hTc (3 + 17 * r + 1 + 2 * yv) (by rw [HTlen.out]; omega)
        have e2 := hTc (3 + 17 * r + 2 + 2 * yv) (by rw [HTlen.out]; omega)
        rw [show T.getD (3 + 17 * r + 1 + 2 * yv) 0 = hsw T r yv from rfl, hhv] at e1
        rw [show T.getD (3 + 17 * r + 2 + 2 * yv) 0 = idw T r yv from rfl, hdv] at e2
        exact ⟨Boxed.cell (show Boxed u Bt 22 _ from (hu (Bt, _) (by simp)).1), Boxed.cell (show Boxed u Bx 3 _ from (hu (Bx, _) (by simp)).1), Boxed.cell (show Boxed u z 42 _ from (hu (z, _) (by simp)).1), e1, e2⟩
      have hdr := stp_drewN V2.heap.size W' 1
      have hS := HSof.out W'.drew (hM.stp hJ2.out hi hdr)
      have hYy := HY.out _ (hv, dv) W'.drew (hJ2.out.own _ _ _ none hi hdr.1 hdr.2) (by
        have e1 := (ents_pre T (show r + 1 ≤ G by omega)).length_le
        rw [ents_succ, List.length_append] at e1
        have e3 : (egr T r).length = (bsF m).length := by unfold egr; rw [HHc.out, HHm.out]; simp [esl]
        simp only [esl, List.length_append, List.length_map]
        omega) ⟨hhs, hids⟩
      have HSy := hid (show esl T r ((ps ++ [y]).map Subtype.val) = esl T r (ps.map Subtype.val) ++ [(hv, dv)] by rw [List.map_append, List.map_cons, List.map_nil, hyv, esl_snoc, hhv, hdv])
      obtain ⟨fn, tmps, assign, body, hy, hR⟩ := yield_any (l' := l3) (m := n - 1 - 1 - 1) hYy
      have HR' := hid hR
      have HM := hid hM
      have HI := hid hi
      have HMk := hid hMk
      have HT0 := hid (show W'.heap[0]? = some tab from (hM' (0, tab) (by simp)).1)
      clear hYy hR hM hM' hi hMk hr3 hJm hMm hMk2 hbM htabV hTb2 h0V hhv hdv hMxe hV2s
      simp only [hyv]
      clear hyv
      gi_wp2_with fail
      refine wpIn_region_heldC (fun u => u.cell? ⟨Bt, 0, none⟩ = some (.slice (some ⟨b, o, none⟩) (3 + 17 * G) c) ∧ u.cell? ⟨Bx, 0, none⟩ = some (.int .i64 (r : Nat)) ∧ u.cell? ⟨z, 0, none⟩ = some (.func (.yield l) #[] #[]) ∧ u.cell? ⟨b, o + (3 + 17 * r + 1 + 2 * yv), none⟩ = some (.int .u64 (hv : Nat)) ∧ u.cell? ⟨b, o + (3 + 17 * r + 2 + 2 * yv), none⟩ = some (.int .u64 (dv : Nat))) 14 (by kernel_rfl) ?_
      refine wpAnyC_take (i := 0) (v := .func (.yield l) #[] #[]) rfl (by kernel_rfl) (fun _ _ _ h => h) (yieldsR_run rfl rfl (fun _ => rfl) (fun u hu => by obtain ⟨u1, u2, u3, u4, u5⟩ := hu; go_simp)) hS ?_
      simp only [Act.put, List.setIfInBounds_toArray]
      refine wpAnyC_take (i := 1) (v := .slice (some ⟨b, o, none⟩) (3 + 17 * G) c) rfl (by kernel_rfl) (fun _ _ _ h => h) (yieldsR_run rfl rfl (fun _ => rfl) (fun u hu => by obtain ⟨u1, u2, u3, u4, u5⟩ := hu; go_simp)) hS ?_
      simp only [Act.put]
      refine wpAnyC_take (i := 2) (v := .int .i64 (r : Nat)) rfl (by kernel_rfl) (fun _ _ _ h => h) (yieldsR_run rfl rfl (fun _ => rfl) (fun u hu => by obtain ⟨u1, u2, u3, u4, u5⟩ := hu; go_simp)) hS ?_
      simp only [Act.put]
      refine wpAnyC_take (i := 3) (v := .int .i64 (yv : Nat)) rfl (by kernel_rfl) (fun _ _ _ h => h) (yieldsR_run rfl rfl (fun _ => rfl) (fun u hu => by obtain ⟨u1, u2, u3, u4, u5⟩ := hu; go_simp)) hS ?_
      simp only [Act.put]
      refine wpAnyC_take (i := 7) (v := .slice (some ⟨b, o, none⟩) (3 + 17 * G) c) rfl (by kernel_rfl) (fun _ _ _ h => h) (yieldsR_run rfl rfl (fun _ => rfl) (fun u hu => by obtain ⟨u1, u2, u3, u4, u5⟩ := hu; go_simp)) hS ?_
      simp only [Act.put]
      refine wpAnyC_take (i := 8) (v := .int .i64 (r : Nat)) rfl (by kernel_rfl) (fun _ _ _ h => h) (yieldsR_run rfl rfl (fun _ => rfl) (fun u hu => by obtain ⟨u1, u2, u3, u4, u5⟩ := hu; go_simp)) hS ?_
      simp only [Act.put]
      refine wpAnyC_take (i := 9) (v := .int .i64 (yv : Nat)) rfl (by kernel_rfl) (fun _ _ _ h => h) (yieldsR_run rfl rfl (fun _ => rfl) (fun u hu => by obtain ⟨u1, u2, u3, u4, u5⟩ := hu; go_simp)) hS ?_
      simp only [Act.put]
      refine wpAnyC_sole (i := 4) rfl (by kernel_rfl) (fun K1 hK1 => ?_)
      go_simp
      refine ((callsIn_wide.2 (KH _)).inRound l3).mono ?_
      rintro _ _ ⟨rfl, rfl⟩
      refine hK1 _ _ (.inr hS) ?_
      clear hK1 K1
      refine wpAnyC_take (i := 5) (v := .pointer (some ⟨b, o + (3 + 17 * r + 1 + 2 * yv), none⟩)) rfl (by kernel_rfl) (fun _ _ _ h => h) (yieldsR_run rfl rfl (fun _ => rfl) (fun u hu => by clear hu; go_simp; rw [if_pos (by omega), show (3 + 17 * (r : Int) + 1 + 2 * (yv : Int)).toNat = 3 + 17 * r + 1 + 2 * yv by omega])) hS ?_
      simp only [Act.put, List.setIfInBounds_toArray]
      refine wpAnyC_take (i := 6) (v := .int .u64 (hv : Nat)) rfl (by kernel_rfl) (fun _ _ _ h => h) (yieldsR_run rfl rfl (fun _ => rfl) (fun u hu => by obtain ⟨u1, u2, u3, u4, u5⟩ := hu; go_simp)) hS ?_
      simp only [Act.put]
      refine wpAnyC_sole (i := 10) rfl (by kernel_rfl) (fun K1 hK1 => ?_)
      go_simp
      refine ((callsIn_wide.2 (KI _)).inRound l3).mono ?_
      rintro _ _ ⟨rfl, rfl⟩
      refine hK1 _ _ (.inr hS) ?_
      clear hK1 K1
      refine wpAnyC_take (i := 11) (v := .pointer (some ⟨b, o + (3 + 17 * r + 2 + 2 * yv), none⟩)) rfl (by kernel_rfl) (fun _ _ _ h => h) (yieldsR_run rfl rfl (fun _ => rfl) (fun u hu => by clear hu; go_simp; rw [if_pos (by omega), show (3 + 17 * (r : Int) + 2 + 2 * (yv : Int)).toNat = 3 + 17 * r + 2 + 2 * yv by omega])) hS ?_
      simp only [Act.put, List.setIfInBounds_toArray]
      refine wpAnyC_take (i := 12) (v := .int .u64 (dv : Nat)) rfl (by kernel_rfl) (fun _ _ _ h => h) (yieldsR_run rfl rfl (fun _ => rfl) (fun u hu => by obtain ⟨u1, u2, u3, u4, u5⟩ := hu; go_simp)) hS ?_
      simp only [Act.put]
      refine wpAnyC_sole (i := 13) rfl (by kernel_rfl) (fun K1 hK1 => ?_)
      unfold eenc at hy
      go_simp
      refine HR'.out.mono ?_
      rintro e W3 (⟨rfl, hJ3, hk3, hkp3⟩ | ⟨rfl, hJ3, hk3, hkp3⟩)
      · have hM3 := (HM.out.stp hJ2.out HI.out hdr).kc hkp3
        have hS3 := HSof.out W3 hM3
        have h03 : W3.heap[0]? = some tab := (HSof0.out W3 hM3)
        refine hK1 _ _ (.inr hS3) ?_
        clear hK1 K1
        refine wpAnyC_sole (i := 14) rfl (by kernel_rfl) (fun K1 hK1 => ?_)
        go_simp
        refine hK1 _ _ (.inl rfl) ?_
        clear hK1 K1
        refine wpAnyC_done (by kernel_rfl) ?_
        have hk : KeepsFrom W1.heap.size W' W3 := ⟨hk3.size, hk3.same⟩
        have hMk3 : Marks Ds W3 := HMk.out.keeps (fun D hD => by have := (HDV.out D hD).1; omega) hk
        have HF : Hid (KeepsFrom V2.heap.size W' W3 ∧ Kt W' W3 ∧ ((J (ents T r ++ esl T r ((ps ++ [y]).map Subtype.val)) W3 ∧ Mines O Mx W3) ∧ Marks Ds W3)) := by
          refine ⟨keepsFrom_up hk (by omega), fun o ho => ?_, ⟨?_, hM3⟩, hMk3⟩
          · rw [HT0.out] at ho; cases ho; exact h03
          · rw [HSy.out, ← List.append_assoc]; exact hJ3
        clear hJ3 hk3 hkp3 hM3 hS3 h03 hk hMk3
        gi_wp2_with fail
        exact HF.out
      · have hM3 := (HM.out.stp hJ2.out HI.out hdr).kc hkp3
        have hS3 := HSof.out W3 hM3
        have h03 : W3.heap[0]? = some tab := (HSof0.out W3 hM3)
        refine hK1 _ _ (.inr hS3) ?_
        clear hK1 K1
        refine wpAnyC_sole (i := 14) rfl (by kernel_rfl) (fun K1 hK1 => ?_)
        go_simp
        refine hK1 _ _ (.inl rfl) ?_
        clear hK1 K1
        refine wpAnyC_done (by kernel_rfl) ?_
        have hk : KeepsFrom W1.heap.size W' W3 := ⟨hk3.size, hk3.same⟩
        have hMk3 : Marks Ds W3 := HMk.out.keeps (fun D hD => by have := (HDV.out D hD).1; omega) hk
        have HF : Hid (KeepsFrom V2.heap.size W' W3 ∧ (∃ qs, qs <+: ents T r ++ esl T r ((ps ++ [y]).map Subtype.val) ∧ Jx qs W3) ∧ Marks Ds W3) := by
          refine ⟨keepsFrom_up hk (by omega), ⟨_, ?_, hJ3⟩, hMk3⟩
          rw [HSy.out, ← List.append_assoc]
          exact List.prefix_rfl
        clear hJ3 hk3 hkp3 hM3 hS3 h03 hk hMk3
        gi_wp2_with fail
        exact ⟨HF.out.1, rfl, HF.out.2⟩
end Go.Proofs.YtkfagfdefkaenaaDoor

/-
  Grow: a table of other size with the same entries; no statement is proved here.
-/
namespace Go.Proofs.YtkfagfdefkaenaaDoor
open Go.RowKit Go.Shelf
open Pr (Gp GpI sq pl)
attribute [local go_sem] Oper.semAt_some run_store_func wide_fn wide_depth

def TGwPost (T : List Nat) (G M : Nat) (w : World) (e : Ending) (w' : World) : Prop := Ext [] w w' ∧
  ((∃ X g c, Hol X M (ents T G) ∧ e = .returned (.tuple #[.slice (some ⟨g, 0, none⟩) (3 + 17 * M) c, .int .i64 0]) ∧ Tw w' g X ∧ w.heap.size ≤ g) ∨
   (7 * M < T.getD 1 0 ∧ e = .returned (.tuple #[.slice none 0 0, .int .i64 7])))
def GwI (M gG : Nat) (W3 : World) (pre : List (Nat × Nat)) (W : World) : Prop := ∃ X, Hol X M pre ∧ Tw W gG X ∧ Ext [gG] W3 W
def GwX (M gG z : Nat) (W3 : World) (cd : Code) (pre : List (Nat × Nat)) (W : World) : Prop := cd = .ret ∧ pre.length = 7 * M + 1 ∧ Boxed W z 22 (.slice none 0 0) ∧ Boxed W (z + 1) 28 (.int .i64 7) ∧ Ext [gG, z, z + 1] W3 W

set_option maxRecDepth 100000 in
set_option maxHeartbeats 4000000 in
theorem tgrow_any (a : Option Addr) (c : Nat) (T : List Nat) (G M : Nat) (hSd : Sd T G) (hM : Gp M) (w : World) (hT : Wd w a T) (hTb : Tb w) :
    Calls Tryd.prog 80 #[.slice a (3 + 17 * G) c, .int .i64 (M : Nat)] w (TGwPost T G M w) := by
  have hlen := hSd.shp.len
  have hG := hSd.shp.gp.le
  have hMl := hM.le
  have hne : T ≠ [] := by rintro rfl; simp at hlen; omega
  obtain ⟨b, o, rfl, hcc⟩ := hT.at_ hne
  clear hcc
  refine (callsIn_wide (n := 14)).1 ?_
  refine callsIn_of_wp_marks Tryd.func80 rfl trivial ?_ rfl
  simp only [Tryd.ntmps80, List.size_toArray, List.length_cons, List.length_nil, Nat.reduceAdd, Nat.reduceSub, Array.replicate_succ, Array.replicate_zero, List.push_toArray, List.append_toArray, List.nil_append, List.cons_append]
  obtain ⟨z, hz⟩ : ∃ z, w.heap.size = z := ⟨_, rfl⟩
  have hbz : b < z := by
    obtain ⟨b', o', e, hc⟩ := hT.at_ hne
    cases e
    have := block_lt_of_cell (hc 0 (by rw [hlen]; omega))
    rw [hz] at this; exact this
  have h0z : 0 < z := by rw [← hz]; exact hTb.lt
  obtain ⟨W0, hW0⟩ : ∃ W0, (w.alloc (.cells #[.slice none 0 0] 22)).alloc (.cells #[.int .i64 0] 28) = W0 := ⟨_, rfl⟩
  have hE0 : Ext [] w W0 := by rw [← hW0]; exact (Ext.alloc [] _ _).trans (Ext.alloc [] _ _)
  have b0 : Boxed W0 z 22 (.slice none 0 0) := by rw [← hW0, ← hz]; exact (Boxed.new w 22 _).alloc _
  have b1 : Boxed W0 (z + 1) 28 (.int .i64 0) := by
    have := Boxed.new (w.alloc (.cells #[.slice none 0 0] 22)) 28 (.int .i64 0)
    rw [hW0, World.size_alloc, hz] at this; exact this
  have K0 := sound_true (some ⟨b, o, none⟩) c T G hSd _ (hT.keep0 hE0)
  have HE0 := hid hE0
  have Hb0 := hid b0
  have Hb1 := hid b1
  have HT0 := hid (hT.keep0 hE0)
  have HTb0 := hid (hTb.keep0 hE0)
  have HSd := hid hSd
  have HL := hid hlen
  have HZ := hid hz
  have HM := hid hM
  clear hE0 b0 b1 hT hTb hSd hlen hM
  gi_wp2_with fail
  try rw [hW0]
  try simp only [hz]
  clear hW0
  gi_at_call 68
  refine (callsIn_wide.2 K0).mono ?_
  clear K0 hz
  rintro _ w1 ⟨rfl, hX1⟩
  have K1 := tnew_ok M HM.out w1
  have HX1 := hid hX1
  clear hX1
  gi_wp2_with fail
  gi_at_call 35
  refine (callsIn_wide.2 K1).mono ?_
  clear K1
  rintro _ w2 ⟨gG, cG, rfl, hTG, hgG, hX2⟩
  have hX12 := HX1.out.trans hX2
  have Hb0' := hid (show Boxed w2 z 22 _ from hX12.keep Hb0.out (by simp))
  have Hb1' := hid (show Boxed w2 (z + 1) 28 _ from hX12.keep Hb1.out (by simp))
  have HT2 := hid (HT0.out.keep0 hX12)
  have HTb2 := hid (HTb0.out.keep0 hX12)
  have HE2 := hid (HE0.out.trans hX12)
  have HTG := hid hTG
  have hz1g : z + 1 < gG := by
    have h1 : Boxed w1 (z + 1) 28 (.int .i64 0) := HX1.out.keep Hb1.out (by simp)
    have := h1.lt
    omega
  have hg2 : gG < w2.heap.size := hTG.lt
  clear hX2 hX12 HX1 Hb0 Hb1 HT0 HTb0 HE0 hTG
  have K1 := entries_any (some ⟨b, o, none⟩) (3 + 17 * G) c (w2.alloc (.cells #[.slice (some ⟨gG, 0, none⟩) (3 + 17 * M) cG] 22))
  obtain ⟨z2, hz2⟩ : ∃ z2, w2.heap.size = z2 := ⟨_, rfl⟩
  simp only [World.size_alloc, hz2] at K1
  have HZ2 := hid hz2
  have hgz : gG < z2 := by rw [← hz2]; exact hg2
  have ccG := (Boxed.new w2 22 (.slice (some ⟨gG, 0, none⟩) (3 + 17 * M) cG)).cell
  gi_wp2_with (first | (gi_at_call 110; refine (callsIn_wide.2 K1).mono ?_; rintro _ _ ⟨rfl, rfl⟩))
  clear K1
  have hz2' := HZ2.out
  have bg := (Boxed.new w2 22 (.slice (some ⟨gG, 0, none⟩) (3 + 17 * M) cG)).alloc (.cells #[.slice (some ⟨b, o, none⟩) (3 + 17 * G) c] 22)
  have bt := Boxed.new (w2.alloc (.cells #[.slice (some ⟨gG, 0, none⟩) (3 + 17 * M) cG] 22)) 22 (.slice (some ⟨b, o, none⟩) (3 + 17 * G) c)
  have hX3 : Ext [] w2 ((w2.alloc (.cells #[.slice (some ⟨gG, 0, none⟩) (3 + 17 * M) cG] 22)).alloc (.cells #[.slice (some ⟨b, o, none⟩) (3 + 17 * G) c] 22)) := (Ext.alloc [] _ _).trans (Ext.alloc [] _ _)
  obtain ⟨W3, hW3⟩ : ∃ W3, (w2.alloc (.cells #[.slice (some ⟨gG, 0, none⟩) (3 + 17 * M) cG] 22)).alloc (.cells #[.slice (some ⟨b, o, none⟩) (3 + 17 * G) c] 22) = W3 := ⟨_, rfl⟩
  have hs3 : W3.heap.size = z2 + 2 := by rw [← hW3]; simp [hz2']
  simp only [World.size_alloc, hz2'] at bg bt
  rw [hW3] at bg bt hX3
  have hb1 : b < z2 := by omega
  obtain ⟨R, hR1⟩ : ∃ R, w2.heap[b]? = some R := ⟨_, Array.getElem?_eq_getElem (by rw [hz2']; exact hb1)⟩
  have hRc : R.isCells = true := by
    obtain ⟨b', o', e, hc⟩ := HT2.out.at_ hne
    cases e
    have := hc 0 (by rw [HL.out]; omega)
    cases R with
    | cells cs t m => rfl
    | _ => simp [World.cell?, hR1] at this
  have hO3 : ∀ k ∈ [0, z2 + 1, b], ¬ Olist [gG, z, z + 1] W3 k := by
    intro k hk hO
    simp only [Olist, List.mem_cons, List.not_mem_nil, or_false] at hk hO
    omega
  have hEnt := entries_gives 13 (by omega) (z2 + 1) b o c G T R HSd.out.shp (Olist [gG, z, z + 1]) W3 bt (hX3.keep hR1 (by simp)) hRc (HT2.out.keep0 hX3) (HTb2.out.keep0 hX3) hO3
  have HEnt := hid hEnt
  have HX3 := hid hX3
  have Hbg := hid bg
  have HTG3 := hid (HTG.out.keep0 hX3)
  have HTb3 := hid (HTb2.out.keep0 hX3)
  have hel := ents_len T G
  clear bg bt hEnt hR1 hRc hO3 hX3 ccG
  try rw [hW3]
  have hz13 : z2 + 2 ≤ W3.heap.size ∧ W3.heap.size ≤ z2 + 2 := by omega
  clear hW3 hs3 hz2' hz2
  refine loop_givesS rfl (by omega) (gf := 126) (lb := #[.pointer (some ⟨z2 + 1, 0, none⟩)]) rfl trivial (enters_of Tryd.func126 (by kernel_rfl) rfl)
    HEnt.out (fun _ => rfl)
    (GwI M gG W3) (GwX M gG z W3)
    (cal_list (fun s X Y row hs hg hr => by
      obtain ⟨Q, q1, q2, q3⟩ := hs
      exact ⟨Q, q1, tw_own (β := Unit) gG _ () X Y row q2 hg (fun r e => (hr r e).2), ext_own (β := Unit) (Nat.le_refl _) () X Y row q3 hg hr⟩) (fun s W hs k hk => by obtain ⟨Q, q1, q2, q3⟩ := hs; have := q3.size; simp at hk; omega))
    (fun cd => cal_list (fun s X Y row hs hg hr => by
      obtain ⟨e1, e2, q1, q2, q3⟩ := hs
      exact ⟨e1, e2, boxed_own z 22 (fun _ : Unit => .slice none 0 0) () X Y row q1 hg (fun r e => (hr r e).2), boxed_own (z + 1) 28 (fun _ : Unit => .int .i64 7) () X Y row q2 hg (fun r e => (hr r e).2), ext_own (β := Unit) (Nat.le_refl _) () X Y row q3 hg hr⟩)
      (fun s W hs k hk => by obtain ⟨e1, e2, q1, q2, q3⟩ := hs; have := q3.size; simp at hk; omega))
    ⟨newT M, hol_new HM.out, HTG3.out, Ext.refl _ _⟩
    (fun x a' _ => a' = { tmps := #[.slice (some ⟨b, o, none⟩) (3 + 17 * G) c, .int .i64 (M : Nat), undef, undef, .pointer (some ⟨z, 0, none⟩), .pointer (some ⟨z + 1, 0, none⟩), .pointer (some ⟨z2, 0, none⟩), .int .i64 0, .int .u64 (x.1 : Nat), .int .u64 (x.2 : Nat), .slice (some ⟨b, o, none⟩) (3 + 17 * G) c, .bool true, .bool false, .tuple #[.slice (some ⟨gG, 0, none⟩) (3 + 17 * M) cG, .int .i64 0], .int .i64 (M : Nat), .tuple #[.slice (some ⟨gG, 0, none⟩) (3 + 17 * M) cG, .int .i64 0], .slice (some ⟨gG, 0, none⟩) (3 + 17 * M) cG, .int .i64 0, .int .i64 0, .bool false, undef, .slice (some ⟨b, o, none⟩) (3 + 17 * G) c, .func (.func 126) #[] #[.pointer (some ⟨z2 + 1, 0, none⟩)], .int .u64 (x.1 : Nat), .int .u64 (x.2 : Nat), undef, undef, undef, undef, undef, undef], defers := [] }) (fun x a' _ X Y row hs hg hr => hs)
    ?assign ?body ?done ?stop
  case assign =>
    rintro l pre x W K _ hI hK
    unfold eenc
    gi_wp2
    exact hK _ _ (KeepsFrom.refl _ _) (Kc.refl _ _) hI rfl
  case stop =>
    rintro D cd pre W hD hSp ⟨rfl, hpl, q1, q2, q3⟩ hK
    have HF : Hid (7 * M < T.getD 1 0) := by
      have h1 := hSp.length_le
      rw [ents_tot, ← HSd.out.cnt] at h1
      show _ < _
      omega
    have Hq1 := hid q1
    have Hq2 := hid q2
    have Hq3 := hid q3
    have HK := hid hK
    have HD := hid hD
    clear hSp hpl q1 q2 q3 hK hD
    gi_wp2_with fail
    have hP := grownBy_putObj' W D (.deferred none)
    have hx2 := Ext.grown (S := [D]) hP (by simp)
    have hDz := HD.out
    have hr1 : Boxed _ _ _ _ := hx2.keep (show W.heap[z]? = _ from Hq1.out) (by simp; omega)
    have hr2 : Boxed _ _ _ _ := hx2.keep (show W.heap[z + 1]? = _ from Hq2.out) (by simp; omega)
    have hw := HZ.out
    refine ⟨by simp, .inl ⟨_, _, rfl, run_takeDeferred HK.out, _, results_cells2 rfl _ _ ⟨z, 0, none⟩ ⟨z + 1, 0, none⟩ _ _ rfl rfl (load22 hr1) (load29 hr2), ?_, .inr ⟨HF.out, rfl⟩⟩⟩
    exact (((HE2.out.trans HX3.out).on Hq3.out (by simp; omega)).on hx2 (by simp; omega))
  case done =>
    rintro D zs W hD rfl ⟨X, hH, hTw, hX⟩ hK
    have hbg : Boxed W z2 22 (.slice (some ⟨gG, 0, none⟩) (3 + 17 * M) cG) := hX.keep Hbg.out (by simp; omega)
    have cg := hbg.cell
    have hb0 : Boxed W z 22 (.slice none 0 0) := hX.keep (HX3.out.keep Hb0'.out (by simp)) (by simp; omega)
    have hb1 : Boxed W (z + 1) 28 (.int .i64 0) := hX.keep (HX3.out.keep Hb1'.out (by simp)) (by simp; omega)
    have c0 := hb0.cell
    have f0 := hb0.frozen
    have hx1 := Ext.setCell [z] W ⟨z, 0, none⟩ (.slice (some ⟨gG, 0, none⟩) (3 + 17 * M) cG) (by simp)
    have hb1' : Boxed (W.setCell ⟨z, 0, none⟩ (.slice (some ⟨gG, 0, none⟩) (3 + 17 * M) cG)) (z + 1) 28 (.int .i64 0) := hx1.keep hb1 (by simp)
    have c1 := hb1'.cell
    have f1 := hb1'.frozen
    have HX := hid hX
    have HH := hid hH
    have HTw := hid hTw
    have HK := hid hK
    have HD := hid hD
    have Hb0 := hid hb0
    have Hb1 := hid hb1'
    have Hx1 := hid hx1
    clear hX hH hTw hK hD hbg hb0 hb1 hb1' hx1
    gi_wp2_with fail
    have hx3 := Ext.setCell [z + 1] (W.setCell ⟨z, 0, none⟩ (.slice (some ⟨gG, 0, none⟩) (3 + 17 * M) cG)) ⟨z + 1, 0, none⟩ (.int .i64 0) (by simp)
    have hK2 := ((KeepsOthers.setCell W ⟨z, 0, none⟩ (.slice (some ⟨gG, 0, none⟩) (3 + 17 * M) cG)).trans (KeepsOthers.setCell _ ⟨z + 1, 0, none⟩ (.int .i64 0))).same _ _ HK.out rfl
    have hP := grownBy_putObj' ((W.setCell ⟨z, 0, none⟩ (.slice (some ⟨gG, 0, none⟩) (3 + 17 * M) cG)).setCell ⟨z + 1, 0, none⟩ (.int .i64 0)) D (.deferred none)
    have hx2 := Ext.grown (S := [D]) hP (by simp)
    have hDz := HD.out
    have hr1 : Boxed _ _ _ _ := hx2.keep (hx3.keep (Hb0.out.set (.slice (some ⟨gG, 0, none⟩) (3 + 17 * M) cG)) (by simp)) (by simp; omega)
    have hr2 : Boxed _ _ _ _ := hx2.keep (Hb1.out.set (.int .i64 0)) (by simp; omega)
    have hw := HZ.out
    refine ⟨by simp, .inl ⟨_, _, rfl, run_takeDeferred hK2, _, results_cells2 rfl _ _ ⟨z, 0, none⟩ ⟨z + 1, 0, none⟩ _ _ rfl rfl (load22 hr1) (load29 hr2), ?_, .inl ⟨X, gG, cG, HH.out, rfl, ?_, by omega⟩⟩⟩
    · exact ((((HE2.out.trans HX3.out).on HX.out (by simp; omega)).on Hx1.out (by simp; omega)).on hx3 (by simp; omega)).on hx2 (by simp; omega)
    · exact ((HTw.out.keep Hx1.out (by simp; omega)).keep hx3 (by simp; omega)).keep hx2 (by simp; omega)
  case body =>
    rintro l pre x a' W hl ⟨r, hr⟩ ⟨X, hH, hTw, hX⟩ rfl hlt ⟨hxh, hxd⟩
    obtain ⟨xh, xd⟩ := x
    simp only at hxh hxd
    have hbg : Boxed W z2 22 (.slice (some ⟨gG, 0, none⟩) (3 + 17 * M) cG) := hX.keep Hbg.out (by simp; omega)
    have cg := hbg.cell
    have KI := insert_any gG cG M xh xd X hH.sd.shp hxh hxd (by rw [hH.len]; omega) W hTw ((Kt.of_ext hX (by simp; omega)).tb HTb3.out)
    have HH := hid hH
    have HX := hid hX
    clear hH hX hTw hbg hr
    gi_wp2_with fail
    gi_at_call 78
    refine ((callsIn_wide.2 KI).inRound l).mono ?_
    clear KI
    rintro e V ⟨hXV, hres⟩
    rcases hres with ⟨g1, i1, hf, hno, rfl, hTV⟩ | ⟨rfl, _, hno⟩
    · have HF : Hid (KeepsFrom W3.heap.size W V ∧ Kc (Olist [gG, z, z + 1]) W V ∧ GwI M gG W3 (pre ++ [(xh, xd)]) V) := by
        refine ⟨keeps_ext hXV (by simp; omega), kc_list (hXV.mono (by simp)), _, hol_ins HH.out hxh hxd ⟨g1, i1, hf, hno, rfl⟩, hTV, HX.out.trans hXV⟩
      clear hf hno hTV hXV cg
      gi_wp2_with fail
      exact HF.out
    · have hfull := hol_full HH.out (h := xh) (d := xd) hno
      have hb0 : Boxed V z 22 (.slice none 0 0) := (HX.out.trans hXV).keep (HX3.out.keep Hb0'.out (by simp)) (by simp; omega)
      have hb1 : Boxed V (z + 1) 28 (.int .i64 0) := (HX.out.trans hXV).keep (HX3.out.keep Hb1'.out (by simp)) (by simp; omega)
      have c0 := hb0.cell
      have f0 := hb0.frozen
      have hx1 := Ext.setCell [z] V ⟨z, 0, none⟩ (.slice none 0 0) (by simp)
      have hb1' : Boxed (V.setCell ⟨z, 0, none⟩ (.slice none 0 0)) (z + 1) 28 (.int .i64 0) := hx1.keep hb1 (by simp)
      have c1 := hb1'.cell
      have f1 := hb1'.frozen
      have hx3 := Ext.setCell [z + 1] (V.setCell ⟨z, 0, none⟩ (.slice none 0 0)) ⟨z + 1, 0, none⟩ (.int .i64 7) (by simp)
      have hall : Ext [gG, z, z + 1] W ((V.setCell ⟨z, 0, none⟩ (.slice none 0 0)).setCell ⟨z + 1, 0, none⟩ (.int .i64 7)) := ((hXV.mono (by simp)).trans (hx1.mono (by simp))).trans (hx3.mono (by simp))
      have HF : Hid (KeepsFrom W3.heap.size W ((V.setCell ⟨z, 0, none⟩ (.slice none 0 0)).setCell ⟨z + 1, 0, none⟩ (.int .i64 7)) ∧ Kc (Olist [gG, z, z + 1]) W ((V.setCell ⟨z, 0, none⟩ (.slice none 0 0)).setCell ⟨z + 1, 0, none⟩ (.int .i64 7)) ∧ GwX M gG z W3 .ret (pre ++ [(xh, xd)]) ((V.setCell ⟨z, 0, none⟩ (.slice none 0 0)).setCell ⟨z + 1, 0, none⟩ (.int .i64 7))) := by
        refine ⟨keeps_ext hall (by simp; omega), kc_list hall, rfl, by rw [List.length_append, hfull]; rfl, hx3.keep (hb0.set _) (by simp), hb1'.set _, (HX.out.mono (by simp)).trans hall⟩
      clear hno hXV cg hb0 hb1 hx1 hb1' hx3 hall hfull
      gi_wp2_with fail
      exact HF.out
set_option maxRecDepth 100000 in
set_option maxHeartbeats 4000000 in
theorem tgrow_bad (a : Option Addr) (c : Nat) (T : List Nat) (G : Nat) (M : Int) (hSd : Sd T G) (hM : ¬ GpI M) (w : World) (hT : Wd w a T) :
    Calls Tryd.prog 80 #[.slice a (3 + 17 * G) c, .int .i64 M] w (SayPost w (.tuple #[.slice none 0 0, .int .i64 2])) := by
  refine (callsIn_wide (n := 14)).1 ?_
  refine callsIn_of_wp_marks Tryd.func80 rfl trivial ?_ rfl
  simp only [Tryd.ntmps80, List.size_toArray, List.length_cons, List.length_nil, Nat.reduceAdd, Nat.reduceSub, Array.replicate_succ, Array.replicate_zero, List.push_toArray, List.append_toArray, List.nil_append, List.cons_append]
  have hG := hSd.shp.gp.le
  obtain ⟨z, hz⟩ : ∃ z, w.heap.size = z := ⟨_, rfl⟩
  obtain ⟨W0, hW0⟩ : ∃ W0, (w.alloc (.cells #[.slice none 0 0] 22)).alloc (.cells #[.int .i64 0] 28) = W0 := ⟨_, rfl⟩
  have hE0 : Ext [] w W0 := by rw [← hW0]; exact (Ext.alloc [] _ _).trans (Ext.alloc [] _ _)
  have b0 : Boxed W0 z 22 (.slice none 0 0) := by rw [← hW0, ← hz]; exact (Boxed.new w 22 _).alloc _
  have b1 : Boxed W0 (z + 1) 28 (.int .i64 0) := by
    have := Boxed.new (w.alloc (.cells #[.slice none 0 0] 22)) 28 (.int .i64 0)
    rw [hW0, World.size_alloc, hz] at this; exact this
  have K0 := sound_true a c T G hSd _ (hT.keep0 hE0)
  have HE0 := hid hE0
  have Hb0 := hid b0
  have Hb1 := hid b1
  have HZ := hid hz
  have HM := hid hM
  clear hE0 b0 b1 hT hSd hM
  gi_wp2_with fail
  try rw [hW0]
  try simp only [hz]
  clear hW0
  gi_at_call 68
  refine (callsIn_wide.2 K0).mono ?_
  clear K0 hz
  rintro _ w1 ⟨rfl, hX1⟩
  have K1 := tnew_bad M HM.out w1
  have HX1 := hid hX1
  clear hX1
  gi_wp2_with fail
  gi_at_call 35
  refine (callsIn_wide.2 K1).mono ?_
  clear K1
  rintro _ w2 ⟨rfl, rfl⟩
  have hE3 := Ext.alloc [] w2 (.cells #[.slice none 0 0] 22)
  have hb0 : Boxed (w2.alloc (.cells #[.slice none 0 0] 22)) z 22 (.slice none 0 0) := (HX1.out.trans hE3).keep Hb0.out (by simp)
  have hb1 : Boxed (w2.alloc (.cells #[.slice none 0 0] 22)) (z + 1) 28 (.int .i64 0) := (HX1.out.trans hE3).keep Hb1.out (by simp)
  have HE3 := hid ((HE0.out.trans HX1.out).trans hE3)
  clear hE3
  have c0 := hb0.cell
  have f0 := hb0.frozen
  have hx1 := Ext.setCell [z] (w2.alloc (.cells #[.slice none 0 0] 22)) ⟨z, 0, none⟩ (.slice none 0 0) (by simp)
  have hb1' : Boxed ((w2.alloc (.cells #[.slice none 0 0] 22)).setCell ⟨z, 0, none⟩ (.slice none 0 0)) (z + 1) 28 (.int .i64 0) := hx1.keep hb1 (by simp)
  have c1 := hb1'.cell
  have f1 := hb1'.frozen
  have Hx1 := hid hx1
  have Hb0' := hid hb0
  have Hb1' := hid hb1'
  clear hb0 hb1 hx1 hb1'
  gi_wp2_with fail
  have hx3 := Ext.setCell [z + 1] ((w2.alloc (.cells #[.slice none 0 0] 22)).setCell ⟨z, 0, none⟩ (.slice none 0 0)) ⟨z + 1, 0, none⟩ (.int .i64 2) (by simp)
  have hr1 : Boxed _ _ _ _ := hx3.keep (Hb0'.out.set (.slice none 0 0)) (by simp)
  have hr2 : Boxed _ _ _ _ := Hb1'.out.set (.int .i64 2)
  have hw := HZ.out
  refine ⟨_, results_cells2 rfl _ _ ⟨z, 0, none⟩ ⟨z + 1, 0, none⟩ _ _ rfl rfl (load22 hr1) (load29 hr2), rfl, ?_⟩
  exact (HE3.out.on Hx1.out (by simp; omega)).on hx3 (by simp; omega)
end Go.Proofs.YtkfagfdefkaenaaDoor

/-
  The statements' own 'found': the list that Find gives; no statement is proved here.
-/
namespace Go.Proofs.YtkfagfdefkaenaaDoor
open Go.RowKit Go.Shelf
open Pr (Gp GpI sq pl)
attribute [local go_sem] Oper.semAt_some run_store_func

namespace Vl
def Lst (w : World) (v : Value) (L : List Nat) : Prop := w.ownsRow 0 37 1 v L.length (vw L)
theorem Lst.keep {S : List Nat} {w w' : World} {v : Value} {L : List Nat} (h : Lst w v L) (x : Ext S w w') (hs : ∀ b ∈ S, v.ownBlock ≠ some b) : Lst w' v L := own_keep h x hs
theorem Lst.keep0 {w w' : World} {v : Value} {L : List Nat} (h : Lst w v L) (x : Ext [] w w') : Lst w' v L := own_keep0 h x
theorem lst_nil (w : World) : Lst w (.slice none 0 0) [] := own_nil _ _ _ _
theorem Lst.slice {w : World} {v : Value} {L : List Nat} (h : Lst w v L) : ∃ a c, v = .slice a L.length c ∧ L.length ≤ c := own_slice h
theorem Lst.lt {w : World} {v : Value} {L : List Nat} (h : Lst w v L) : ∀ g, v.ownBlock = some g → g < w.heap.size := fun g hg => (own_lt h g hg).2

/-- What a loop's round must keep: the box of the iterator's list, and the list. -/
structure Kl (Bn : Nat) (v : Value) (A B : World) : Prop where
  box : ∀ o, A.heap[Bn]? = some o → B.heap[Bn]? = some o
  row : ∀ g, v.ownBlock = some g → ∀ o, A.heap[g]? = some o → B.heap[g]? = some o

theorem Kl.refl (Bn : Nat) (v : Value) (A : World) : Kl Bn v A A := ⟨fun _ h => h, fun _ _ _ h => h⟩
theorem Kl.trans {Bn : Nat} {v : Value} {A B C : World} (h : Kl Bn v A B) (k : Kl Bn v B C) : Kl Bn v A C :=
  ⟨fun o ho => k.box o (h.box o ho), fun g hg o ho => k.row g hg o (h.row g hg o ho)⟩
theorem Kl.lst {Bn : Nat} {v : Value} {A B : World} (h : Kl Bn v A B) {L : List Nat} (hl : Lst A v L) : Lst B v L := by
  refine ⟨hl.1, ?_⟩
  rcases hl.2 with q | ⟨g, cap, cur, rfl, h1, h2, h3⟩
  · exact .inl q
  · exact .inr ⟨g, cap, cur, rfl, h1, h.row g rfl _ h2, h3⟩
theorem Kl.boxed {Bn : Nat} {v : Value} {A B : World} (h : Kl Bn v A B) {t : TypeId} {u : Value} (hb : Boxed A Bn t u) : Boxed B Bn t u := h.box _ hb
theorem Kl.of_ext {Bn : Nat} {v : Value} {A B : World} {S : List Nat} (x : Ext S A B) (h1 : Bn ∉ S) (h2 : ∀ g, v.ownBlock = some g → g ∉ S) : Kl Bn v A B :=
  ⟨fun _ ho => x.keep ho h1, fun g hg _ ho => x.keep ho (h2 g hg)⟩
theorem Kl.of_ext0 {Bn : Nat} {v : Value} {A B : World} (x : Ext [] A B) : Kl Bn v A B := Kl.of_ext x (by simp) (by simp)
theorem klK_b {Bn : Nat} {v : Value} {w : World} (h1 : Bn < w.heap.size) (h2 : ∀ g, v.ownBlock = some g → g < w.heap.size) (W : World) (l : Nat) (o o' : Obj) (hl : w.heap.size ≤ l) (_ : W.heap[l]? = some o) (_ : o.isCells = false) (_ : o.isWalk = false) : Kl Bn v W (W.putObj l o') :=
  ⟨fun _ ho => (World.putObj_heap_other (by omega)).trans ho, fun g hg _ ho => (World.putObj_heap_other (by have := h2 g hg; omega)).trans ho⟩
theorem klK_t {Bn : Nat} {v : Value} {A B C : World} (h : Kl Bn v A B) (k : Kl Bn v B C) : Kl Bn v A C := h.trans k
theorem Kl.of_below {Bn n₀ : Nat} {v : Value} {A B : World} (h : Below n₀ A B) (h1 : Bn < n₀) (h2 : ∀ g, v.ownBlock = some g → g < n₀) : Kl Bn v A B :=
  ⟨fun _ ho => (h.block _ h1).trans ho, fun g hg _ ho => (h.block g (h2 g hg)).trans ho⟩

set_option maxRecDepth 100000 in
set_option maxHeartbeats 2000000 in
/-- The iterator's body, for every loop body that keeps the iterator's list. -/
theorem each1_in (F : Fence) (n : Nat) (h81 : F.fn 131) (hro : F.round = none) (hn : 1 ≤ n) (l Bn : Nat) (v : Value) (L : List Nat) (hlen : L.length ≤ 1000000) (J Jx : List Nat → World → Prop)
    (hY : ∀ pre x W, J pre W → pre.length < L.length → YieldAt F (n - 1) Tryd.prog l #[.int .u64 (x : Nat)] W fun e W' =>
      (e = .returned (.bool true) ∧ J (pre ++ [x]) W' ∧ Kl Bn v W W') ∨ (e = .returned (.bool false) ∧ Jx (pre ++ [x]) W'))
    (W : World) (hBn : Boxed W Bn 22 v) (hL : Lst W v L) (h0 : J [] W) :
    CallsIn F n Tryd.prog 131 #[.func (.yield l) #[] #[], .pointer (some ⟨Bn, 0, none⟩)] W fun e W' => (∃ v, e = .returned v) ∧
      ((∃ ys, ys = L ∧ J ys W') ∨ (∃ pre, pre <+: L ∧ Jx pre W')) := by
  obtain ⟨a, c, rfl, _⟩ := hL.slice
  have hc := hBn.cell
  have hbl := hBn.lt
  refine callsIn_of_wp Tryd.func131 rfl h81 ?_ hro
  simp only [Tryd.ntmps131, List.size_toArray, List.length_cons, List.length_nil, Nat.reduceAdd, Nat.reduceSub, Array.replicate_succ, Array.replicate_zero, List.push_toArray, List.append_toArray, List.nil_append, List.cons_append]
  have HL := hid hL
  have HB := hid hBn
  clear hL hBn
  gi_wp2
  gi_loopw [7] (fun q wr => ∃ k : Nat, q = .int .i64 k ∧ k ≤ L.length ∧ Lst wr (.slice a L.length c) L ∧ Boxed wr Bn 22 (.slice a L.length c) ∧ J (L.take k) wr) (fun q _ => (L.length - (intOf q)).toNat)
  case atStart => exact ⟨0, rfl, Nat.zero_le _, HL.out, HB.out, by simpa using h0⟩
  case round =>
    clear HL HB
    obtain ⟨k, rfl, hk, hL, hB, hJk⟩ := hrel
    have HL := hid hL
    have HB := hid hB
    clear hB hL
    by_cases hlt : k < L.length
    · obtain ⟨b, o, rfl, hcc⟩ := (show Wd wr a L from own_vs HL.out).at_ (by rintro rfl; simp at hlt)
      have c0 := hcc k hlt
      clear hcc
      have HM : Hid (L.take k ++ [L.getD k 0] = L.take (k + 1)) := by
        show _ = _
        rw [List.take_add_one]; simp [hlt]
      generalize L.getD k 0 = x at *
      obtain ⟨fn, tmps, assign, body, hy, hR⟩ := hY (L.take k) x _ hJk (by simp; omega)
      gi_wp2
      refine hR.mono ?_
      rintro e W3 (⟨rfl, hJ3, hk3⟩ | ⟨rfl, hJx3⟩)
      · have HL3 := hid (hk3.lst HL.out)
        have HB3 := hid (hk3.boxed HB.out)
        gi_wp2
        go_roundw
        case rel => exact ⟨k + 1, by go_num, by omega, HL3.out, HB3.out, by rw [← HM.out]; exact hJ3⟩
        case measure => simp [intOf]; omega
      · gi_wp2
        refine bodyPost_ret (results_none rfl _ _ _) rfl ?_
        exact ⟨⟨_, rfl⟩, .inr ⟨_, by rw [HM.out]; exact List.take_prefix _ _, hJx3⟩⟩
    · obtain rfl : k = L.length := by omega
      gi_wp2
      go_end0
      exact ⟨⟨_, rfl⟩, .inl ⟨L, rfl, by rwa [List.take_length] at hJk⟩⟩

/-- The iterator's contract. -/
theorem each_stops (F : Fence) (n : Nat) (h81 : F.fn 131) (hro : F.round = none) (hn : 1 ≤ n) (Bn : Nat) (v : Value) (L : List Nat) (hlen : L.length ≤ 1000000) (w : World) (hB : Boxed w Bn 22 v) (hL : Lst w v L) :
    SeqStopsK F n Tryd.prog 131 #[.pointer (some ⟨Bn, 0, none⟩)] (fun x : Nat => #[Value.int .u64 (x : Nat)]) (Kl Bn v) (fun ys => ys = L) (fun pre => pre <+: L) L.length w := fun l J Jx W hW _ _ hY h0 =>
  each1_in F n h81 hro hn l Bn v L hlen J Jx hY W ((below_ext hW).keep hB (by simp)) (hL.keep0 (below_ext hW)) h0

end Vl
theorem eql_func_nil (w : World) (gf : FuncId) (lb : Array Value) : (binOp .eql 97 (.func (.func gf) #[] lb) .nilFunc).run Tryd.prog w = .ok (.bool false) w := by
  have h : ∀ d, (Op.equalIn (d + 1) 97 (.func (.func gf) #[] lb) .nilFunc).run Tryd.prog w = .ok false w := fun d => by simp [Op.equalIn, run_underlying Tryd.underlying97]
  simp only [binOp]
  simp [Op.equal, Op.maxDepth, h 9999]
theorem load22' {w : World} {g : Nat} {v : Value} (h : Boxed w g 22 v) : (loadVar 22 ⟨g, 0, none⟩).run Tryd.prog w = .ok v w := by
  have := h.cell
  simp [go_sem, this]
theorem results_cells2' {P : Program} {fn : Func} {p q : Tmp} {ty ty' : TypeId} (h : fn.results = #[.cell p ty, .cell q ty']) (tmps : Array Value) (w : World) (a b : Addr) (v v' : Value)
    (hp : tmps.getD p undef = .pointer (some a)) (hq : tmps.getD q undef = .pointer (some b)) (h1 : (loadVar ty a).run P w = .ok v w) (h2 : (loadVar ty' b).run P w = .ok v' w) : (results fn tmps).run P w = .ok (.tuple #[v, v']) w := by
  have hp' : tmps[p]?.getD undef = .pointer (some a) := by simpa using hp
  have hq' : tmps[q]?.getD undef = .pointer (some b) := by simpa using hq
  simp [results, h, hp', hq', asAddr, h1, h2]
def FoPost (w : World) (L : List Nat) (e : Ending) (w' : World) : Prop := ∃ v, e = .returned (.tuple #[v, .bool true]) ∧ w'.ownsRow w.heap.size 37 1 v L.length (vw L) ∧ Ext [] w w'

end Go.Proofs.YtkfagfdefkaenaaDoor

/-
  All and the law's pairs; no statement is proved here.
-/
namespace Go.Proofs.YtkfagfdefkaenaaDoor
open Go.RowKit Go.Shelf
open Pr (Gp GpI sq pl)
attribute [local go_sem] Oper.semAt_some run_store_func wide_fn wide_depth

theorem wpListIn_append_run {F : Fence} {n : Nat} {P : Program} {w w' : World} {ops : Array Oper} {rest : List Oper} {o : Oper} {a : Act} {Q : Exit → Act → World → Prop} (hgd : o.guard = none) (s x : Operand) (t : TypeId)
    (ho : o.op = .call { callee := .builtin .append, args := #[s, x], argTypes := #[t, t] }) (vs vx v' : Value) (hs : a.eval s = vs) (hx : a.eval x = vx)
    (hr : (Builtin.append_ #[t, t] o.type #[vs, vx]).run P w = .ok v' w') (h : wpListIn F n P ops Q rest (a.put o.dst v') w') : wpListIn F n P ops Q (o :: rest) a w := by
  refine wpListIn_plain hgd fun K hK => ?_
  unfold Oper.wpIn
  refine ⟨by simp [Oper.about, ho, resolve, Target.leads, Sem.run_pure], ?_⟩
  rw [Oper.semAt_plain F _ _ (by rw [ho]; intro c hc'; cases hc')]
  simp [execOp, ho, resolve, invoke, builtin, hs, hx, hr, Result.andThen]
  exact hK _ _ h
/-- Two words more: the world behind append and store. -/
theorem gat_push2 {w1 W U : World} {z1 : Nat} {L : List Nat} {x y : Nat} {va : Option Addr} {n vc : Nat} (hn : L.length = n) (hw : w1.heap.size = z1) (hv : Boxed W z1 22 (.slice va n vc)) (ho : W.ownsRow z1 37 1 (.slice va n vc) n (vw L)) (hvn : ∀ q, (Value.slice va n vc).ownBlock = some q → z1 < q) (hB : Below z1 w1 W) (hU : Ext [] W U)
    (hx : U.cell? ⟨W.heap.size, 0, none⟩ = some (.int .u64 (x : Nat))) (hy : U.cell? ⟨W.heap.size, 1, none⟩ = some (.int .u64 (y : Nat))) (hl : n ≤ 1000000) :
    ∃ v' U', (Builtin.append_ #[22, 22] 22 #[.slice va n vc, .slice (some ⟨W.heap.size, 0, none⟩) 2 2]).run Tryd.prog U = .ok v' U' ∧ (∃ a' c', v' = .slice a' (n + 2) c') ∧ Boxed U' z1 22 (.slice va n vc) ∧ Gat w1 z1 (L ++ [x, y]) (U'.setCell ⟨z1, 0, none⟩ v') ∧ Kc (Obx z1) W (U'.setCell ⟨z1, 0, none⟩ v') ∧ KeepsOthers W (U'.setCell ⟨z1, 0, none⟩ v') ∧ Ext (z1 :: (Value.slice va n vc).ownBlock.toList) W (U'.setCell ⟨z1, 0, none⟩ v') ∧ Ext (Value.slice va n vc).ownBlock.toList W U' := by
  obtain ⟨i, hi0, hz0, hz1, hz2⟩ := info_parts info37
  have hz1l := hv.lt
  obtain ⟨v', U', hr, ho5, hg5, _, hn5⟩ := run_append_own_at (P := Tryd.prog) U z1 22 22 37 i _ 1 8 Tryd.underlying22 hi0 hz0 hz1 hz2 rfl (by decide) (.slice va n vc) n (vw L) (own_keep0 ho hU) ⟨W.heap.size, 0, none⟩ 2 2 [.int .u64 (x : Nat), .int .u64 (y : Nat)] rfl (fun j u2 hu2 => by
    cases j with
    | zero => rw [Addr.add_lit, Nat.zero_add, hx, ← hu2]; rfl
    | succ j =>
      cases j with
      | zero => rw [Addr.add_lit, Nat.zero_add, hy, ← hu2]; rfl
      | succ j => simp at hu2) (by simp [Value.oneCell']) (by unfold maxLen; omega) (by omega) (by have := hU.size; omega)
  have hx5 : Ext (Value.slice va n vc).ownBlock.toList W U' := (hU.mono (by simp)).trans (ext_grown hg5)
  have hzn : z1 ∉ (Value.slice va n vc).ownBlock.toList := by
    intro hm
    rw [Option.mem_toList] at hm
    have := hvn z1 hm
    omega
  have hbz : Boxed U' z1 22 (.slice va n vc) := hx5.keep hv hzn
  have hx6 := Ext.setCell [z1] U' ⟨z1, 0, none⟩ v' (by simp)
  have hvn5 : ∀ g, v'.ownBlock = some g → z1 < g := fun g hg => by
    rcases hn5 with q | q
    · rw [q] at hg; exact hvn g hg
    · rw [q] at hg; simp at hg; have := hU.size; omega
  obtain ⟨a5, c5, hv5, _⟩ := own_slice ho5
  have hxx : Ext (z1 :: (Value.slice va n vc).ownBlock.toList) W (U'.setCell ⟨z1, 0, none⟩ v') := (hx5.mono (by simp; intro a ha; exact .inr ha)).trans (hx6.mono (by simp))
  refine ⟨v', U', hr, ⟨a5, c5, hv5⟩, hbz, ⟨⟨v', hbz.set v', ?_, hvn5⟩, ?_⟩, kc_gat hv (hbz.set v') hxx ?_, ?_, hxx, hx5⟩
  · rw [List.length_append, vw_append, hn]
    exact own_keep ho5 hx6 (fun q hq hvv => by simp only [List.mem_singleton] at hq; have := hvn5 q hvv; omega)
  · refine hB.trans ⟨hxx.os, hxx.tape, hxx.output, hxx.size, fun k hk => hxx.block k (by omega) (fun q => ?_)⟩
    rcases List.mem_cons.1 q with e | q
    · omega
    · rw [Option.mem_toList] at q
      have := hvn k q
      omega
  · rcases hn5 with q | q
    · exact .inl q
    · right
      intro k hk
      rw [q] at hk
      simp at hk
      have := hU.size
      omega
  · refine ⟨hxx.size, fun k o hk ho' => hxx.keep hk (fun q => ?_)⟩
    rcases List.mem_cons.1 q with e | q
    · subst e; rw [show W.heap[k]? = _ from hv] at hk; cases hk; cases ho'
    · rw [Option.mem_toList] at q
      rcases ho.2 with ⟨e, _⟩ | ⟨g, cap, cur, e, _, hg, _⟩
      · rw [e] at q; simp [Value.ownBlock] at q
      · rw [e] at q; simp [Value.ownBlock] at q; subst q; rw [hg] at hk; cases hk; cases ho'
/-- Pairs laid one behind the other. -/
def flat2 (E : List (Nat × Nat)) : List Nat := E.flatMap fun p => [p.1, p.2]
theorem flat2_app (A B : List (Nat × Nat)) : flat2 (A ++ B) = flat2 A ++ flat2 B := by simp [flat2]
theorem flat2_len : ∀ E : List (Nat × Nat), (flat2 E).length = 2 * E.length
  | [] => rfl
  | p :: E => by
    have := flat2_len E
    simp only [flat2, List.flatMap_cons, List.length_append, List.length_cons, List.length_nil] at this ⊢
    omega
theorem eql_func_nil66 (w : World) (gf : FuncId) (lb : Array Value) : (binOp .eql 143 (.func (.func gf) #[] lb) .nilFunc).run Tryd.prog w = .ok (.bool false) w := by
  have h : ∀ d, (Op.equalIn (d + 1) 143 (.func (.func gf) #[] lb) .nilFunc).run Tryd.prog w = .ok false w := fun d => by simp [Op.equalIn, run_underlying Tryd.underlying143]
  simp only [binOp]
  simp [Op.equal, Op.maxDepth, h 9999]
def AlPost (w : World) (T : List Nat) (G : Nat) (e : Ending) (w' : World) : Prop := ∃ Bt g cc, e = .returned (.tuple #[.func (.func 126) #[] #[.pointer (some ⟨Bt, 0, none⟩)], .int .i64 0]) ∧ Boxed w' Bt 22 (.slice (some ⟨g, 0, none⟩) (3 + 17 * G) cc) ∧ Tw w' g T ∧ w.heap.size ≤ g ∧ w.heap.size ≤ Bt ∧ Ext [] w w'
theorem tall_any (b o c : Nat) (T : List Nat) (G : Nat) (hSd : Sd T G) (w : World) (hT : Wd w (some ⟨b, o, none⟩) T) : Calls Tryd.prog 89 #[.slice (some ⟨b, o, none⟩) (3 + 17 * G) c] w (AlPost w T G) := by
  have K0 := sound_true (some ⟨b, o, none⟩) c T G hSd w hT
  have hG := hSd.shp.gp.le
  have HT := hid hT
  have HL := hid hSd.shp.len
  clear hT hSd
  go_enter Tryd.func89, Tryd.ntmps89
  go_wp2_with fail
  refine K0.mono ?_
  clear K0
  rintro _ w1 ⟨rfl, hX1⟩
  have K1 := clone_any b o (3 + 17 * G) c T w1 (HT.out.keep0 hX1) HL.out (by omega) (by omega)
  have HX1 := hid hX1
  clear hX1
  go_wp2_with fail
  refine K1.mono ?_
  clear K1
  rintro _ w2 ⟨g, cc, rfl, hTw, hg, hX2⟩
  have K2 := entries_any (some ⟨g, 0, none⟩) (3 + 17 * G) cc w2
  have HX2 := hid (HX1.out.trans hX2)
  have HTw := hid hTw
  have hs1 := HX1.out.size
  clear hX2 hTw
  go_wp2_with fail
  refine K2.mono ?_
  clear K2
  rintro _ _ ⟨rfl, rfl⟩
  go_wp2
  go_ret2
  have hx := Ext.alloc [] w2 (.cells #[.slice (some ⟨g, 0, none⟩) (3 + 17 * G) cc] 22)
  exact ⟨_, g, cc, rfl, Boxed.new w2 22 _, HTw.out.keep0 hx, by omega, HX2.out.size, HX2.out.trans hx⟩

end Go.Proofs.YtkfagfdefkaenaaDoor

/-
  The statements' own helpers: times, SameWords, awake, grown; no statement is proved here.
-/
namespace Go.Proofs.YtkfagfdefkaenaaDoor
open Go.RowKit Go.Shelf
open Pr (Gp GpI sq pl)
attribute [local go_sem] Oper.semAt_some run_store_func

theorem count_take (L : List Nat) (d k : Nat) (hk : k < L.length) : (L.take (k + 1)).count d = (L.take k).count d + (if L.getD k 0 = d then 1 else 0) := by
  rw [List.take_add_one, List.count_append]
  simp [hk, List.count_singleton]
set_option maxRecDepth 10000 in
theorem times_any (a : Option Addr) (n c : Nat) (L : List Nat) (d : Nat) (w : World) (hL : Wd w a L) (hn : L.length = n) (hb : n ≤ 1000000) : Calls Tryd.prog 22 #[.slice a n c, .int .u64 (d : Nat)] w fun e w' => e = .returned (.int .i64 (L.count d : Nat)) ∧ w' = w := by
  have HC := hid (count_take L d)
  have HL := hid hL
  have HN := hid hn
  have HT : Hid ((L.take n).count d = L.count d) := by show _ = _; rw [List.take_of_length_le (by omega)]
  have HB : Hid (∀ k, (L.take k).count d ≤ k) := fun k => Nat.le_trans List.count_le_length (by simp; omega)
  clear hL hn
  go_enter Tryd.func22, Tryd.ntmps22
  go_wp2_with fail
  go_loopw [5, 6] (fun p q wr => ∃ k : Nat, q = .int .i64 k ∧ k ≤ n ∧ p = .int .i64 ((L.take k).count d : Nat) ∧ wr = w) (fun _ q _ => (n - (intOf q)).toNat)
  case atStart => exact ⟨0, rfl, Nat.zero_le _, by simp, rfl⟩
  case round =>
    obtain ⟨k, rfl, hk, rfl, rfl⟩ := hrel
    have hle := HB.out k
    by_cases hkn : k < n
    · have hki : (k : Int) < n := by omega
      obtain ⟨b, o, rfl, hc⟩ := HL.out.at_ (by intro e; have := HN.out; rw [e] at this; simp at this; omega)
      have ck := hc k (by rw [HN.out]; exact hkn)
      have hs := HC.out k (by rw [HN.out]; exact hkn)
      clear hc
      generalize (L.take k).count d = m at *
      generalize L.getD k 0 = x at *
      by_cases hx : x = d
      · have hx' : ((x : Int) == (d : Int)) = true := by simp [hx]
        rw [if_pos hx] at hs
        have Hs := hid hs
        clear hs
        go_wp2_with fail
        go_roundw
        case rel => exact ⟨k + 1, by go_num, by omega, by rw [Hs.out]; simp, trivial⟩
        case measure => simp [intOf]; omega
      · have hx' : ((x : Int) == (d : Int)) = false := by simp; omega
        rw [if_neg hx] at hs
        have Hs := hid hs
        clear hs
        go_wp2_with fail
        go_roundw
        case rel => exact ⟨k + 1, by go_num, by omega, by rw [Hs.out]; simp, trivial⟩
        case measure => simp [intOf]; omega
    · obtain rfl : k = n := by omega
      have ht := HT.out
      generalize (L.take k).count d = m at *
      subst ht
      go_wp2
      go_ret
      exact ⟨rfl, rfl⟩
set_option maxRecDepth 10000 in
theorem sameWords_true (a b : Option Addr) (n c d : Nat) (L : List Nat) (w : World) (ha : Wd w a L) (hb : Wd w b L) (hn : L.length = n) (hm : n ≤ 1000000) : Calls Tryd.prog 34 #[.slice a n c, .slice b n d] w (SayPost w (.bool true)) := by
  have HA := hid ha
  have HB := hid hb
  have HN := hid hn
  clear ha hb hn
  go_enter Tryd.func34, Tryd.ntmps34
  go_wp2_with fail
  go_loopw [5] (fun q wr => ∃ k : Nat, q = .int .i64 k ∧ k ≤ n ∧ Ext [] w wr) (fun q _ => (n - (intOf q)).toNat)
  case atStart => exact ⟨0, rfl, Nat.zero_le _, Ext.refl _ _⟩
  case round =>
    obtain ⟨k, rfl, hk, hX⟩ := hrel
    have HX := hid hX
    by_cases hkn : k < n
    · have hki : (k : Int) < n := by omega
      have hne : L ≠ [] := by intro e; have := HN.out; rw [e] at this; simp at this; omega
      obtain ⟨b1, o1, rfl, hc1⟩ := (HA.out.keep0 hX).at_ hne
      obtain ⟨b2, o2, rfl, hc2⟩ := (HB.out.keep0 hX).at_ hne
      have ck1 := hc1 k (by rw [HN.out]; exact hkn)
      have ck2 := hc2 k (by rw [HN.out]; exact hkn)
      clear hc1 hc2 hX
      generalize L.getD k 0 = x at *
      go_wp2_with (go_quiet (fail))
      go_roundw
      case rel => exact ⟨k + 1, by go_num, by omega, HX.out.trans (Ext.drewN [] _ _)⟩
      case measure => simp [intOf]; omega
    · obtain rfl : k = n := by omega
      clear hX
      go_wp2
      go_ret
      exact ⟨rfl, HX.out⟩
theorem gp1 : Gp 1 := ⟨0, by omega, rfl⟩
theorem gp2 : Gp 2 := ⟨1, by omega, rfl⟩
def RPost (G : Nat) (w : World) (e : Ending) (w' : World) : Prop := ∃ va vn vc er, e = .returned (.tuple #[.slice va vn vc, .int .i64 er]) ∧ Ext [] w w' ∧ ((er = 0 ∧ ∃ T' g', va = some ⟨g', 0, none⟩ ∧ vn = 3 + 17 * G ∧ Sd T' G ∧ Tw w' g' T' ∧ w.heap.size ≤ g') ∨ er ≠ 0)
theorem ins_r {T : List Nat} {G h d : Nat} (hS : Sd T G) (hh : h < 18446744073709551616) (hd : d < 18446744073709551616) {w : World} {e : Ending} {w' : World} (hp : TInsPost T G h d w e w') : RPost G w e w' := by
  obtain ⟨hX, ⟨T', g, c, hI, rfl, hTw, hg⟩ | ⟨_, rfl⟩⟩ := hp
  · exact ⟨_, _, _, _, rfl, hX, .inl ⟨rfl, T', g, rfl, rfl, (ins_facts hS hh hd hI).1, hTw, hg⟩⟩
  · exact ⟨_, _, _, _, rfl, hX, .inr (by omega)⟩
theorem del_r {T : List Nat} {G h d : Nat} (hS : Sd T G) {w : World} {e : Ending} {w' : World} (hp : TDelPost T G h d w e w') : RPost G w e w' := by
  obtain ⟨hX, ⟨T', g, c, hI, rfl, hTw, hg⟩ | ⟨_, rfl⟩⟩ := hp
  · exact ⟨_, _, _, _, rfl, hX, .inl ⟨rfl, T', g, rfl, rfl, (del_facts hS hI).1, hTw, hg⟩⟩
  · exact ⟨_, _, _, _, rfl, hX, .inr (by omega)⟩
end Go.Proofs.YtkfagfdefkaenaaDoor
