/-
  A struct is as wide, and has the pointers, of its fields one behind the other, an array of its elements; and it can be compared just if they can: the function TypesParts answers true and leaves its arguments as they were, for every table and every number; the condition is what the program's own table of parts holds when the call begins.
-/
import Derived.Test.YtfjbhpjgidgjaaaDoorPoint
import Derived.Test.YtfjbhpjgidgjaaaDoorParts
import Derived.Test.YtfjbhpjgidgjaaaDoorOpen
import Derived.Test.YtfjbhpjgidgjaaaDoorCards
import Derived.Test.YtfjbhpjgidgjaaaDoorTie
namespace Go.Proofs.YtfjbhpjgidgjaaaDoor
open Go.RowKit

theorem plain_width {ts : List Ty} {i : Nat} (h : Formed ts i) (hi : i < ts.length) (hp : parts (tyAt ts i) = []) : (M ts i).width = 1 := by
  have hne := h.ne
  rw [h.eq hi]
  unfold meas
  have h8 : ¬ ((tyAt ts i).kind = 8 ∨ (tyAt ts i).kind = 9) := fun hk => hne hk hp
  rw [if_neg h8]
  split
  · rfl
  · split
    · rfl
    · split
      · rfl
      · split <;> rfl

theorem made_meas {ts : List Ty} {i : Nat} (h : Formed ts i) (hi : i < ts.length) (hp : parts (tyAt ts i) ≠ []) : M ts i = ⟨sumWidth (ms ts) (parts (tyAt ts i)), sumWords (ms ts) (parts (tyAt ts i)), allCmp (ms ts) (parts (tyAt ts i)), allPtrs (ms ts) (parts (tyAt ts i))⟩ := by
  rw [h.eq hi]
  have h8 : (tyAt ts i).kind = 8 ∨ (tyAt ts i).kind = 9 := by
    by_cases a : (tyAt ts i).kind = 8
    · exact .inl a
    · by_cases b : (tyAt ts i).kind = 9
      · exact .inr b
      · exact absurd (by unfold parts; rw [if_neg a, if_neg b]) hp
  unfold meas
  rw [if_neg (by omega), if_neg (by omega), if_neg (by omega), if_pos h8]

set_option maxRecDepth 100000 in
set_option maxHeartbeats 4000000 in
theorem partsOf (a : Option Addr) (ts : List Ty) (n c : Nat) (t : Int) (w : World) (hT : Tab w a ts) (hn : ts.length = n) (hG : Gl w) :
    Calls Tryd.prog 6 #[.slice a n c, .int .i64 t] w (SayPost w (.bool true)) := by
  have HT := hid hT
  have HN := hid hn
  have HG := hid hG
  have hln := hT.len
  rw [hn] at hln
  clear hT hn hG
  go_enter Tryd.func6, Tryd.ntmps6
  go_wp2_with fail
  refine (awake_any w HG.out).mono ?_
  rintro e w1 ⟨rfl, hE1⟩
  have HE1 := hid hE1
  clear hE1
  go_wp2_with fail
  refine (copy_any a ts n c w1 (HT.out.keep0 HE1.out) HN.out).mono ?_
  rintro e w2 ⟨a2, c2, G2, rfl, hac2, _, hT2, hE2⟩
  have HE2 := hid (HE1.out.trans hE2)
  have HT2 := hid hT2
  clear hE2 hT2
  go_wp2_with fail
  refine (pointers_any a2 ts n c2 t w2 HT2.out HN.out hac2 (HG.out.keep0 HE2.out)).mono ?_
  rintro e w3 ⟨pa, pc, rfl, hP, hE3, _⟩
  have HE3 := hid (HE2.out.trans hE3)
  have HP := hid hP
  clear hE3 hP HT2 HE2 HE1
  by_cases hb : bad ts t = 0
  · obtain ⟨hs, t0, t1⟩ := bad_zero hb
    obtain ⟨j, rfl⟩ : ∃ j : Nat, t = j := ⟨t.toNat, by omega⟩
    have HS := hid hs
    have HB := hid hb
    have hjn : j < n := by have := HN.out; omega
    have HFm := hid ((hs.2.1 j (by have := HN.out; omega)).1)
    have HMO := hid (mo_ok hb)
    obtain ⟨hfit, h16⟩ := sound_fit hs (i := j) (by have := HN.out; omega)
    have hpl := hfit.len
    have hpd := hfit.dw
    rw [hb]
    rw [HMO.out] at HP ⊢
    clear hs hb t0 t1
    go_wp2_with fail
    refine (copy_any a ts n c w3 (HT.out.keep0 HE3.out) HN.out).mono ?_
    rintro e w4 ⟨a4, c4, G4, rfl, hac4, _, hT4, hE4⟩
    have HE4 := hid (HE3.out.trans hE4)
    have HP4 := hid (HP.out.keep0 hE4)
    have HT4 := hid hT4
    clear hE4 hT4
    go_wp2_with fail
    refine (width_any a4 ts n c4 j w4 HT4.out HN.out hac4 (HG.out.keep0 HE4.out)).mono ?_
    rintro e w5 ⟨rfl, hE5⟩
    rw [HMO.out, HB.out]
    have HE5 := hid (HE4.out.trans hE5)
    have HP5 := hid (HP4.out.keep0 hE5)
    clear hE5 HP4 HT4 HE4 HP HE3
    go_wp2_with fail
    refine (copy_any a ts n c w5 (HT.out.keep0 HE5.out) HN.out).mono ?_
    rintro e w6 ⟨a6, c6, G6, rfl, hac6, _, hT6, hE6⟩
    have HE6 := hid (HE5.out.trans hE6)
    have HP6 := hid (HP5.out.keep0 hE6)
    have HT6 := hid hT6
    clear hE6 hT6 HP5
    go_wp2_with fail
    refine (compar_any a6 ts n c6 j w6 HT6.out HN.out hac6 (HG.out.keep0 HE6.out)).mono ?_
    rintro e w7 ⟨rfl, hE7⟩
    rw [HMO.out, HB.out]
    have HE7 := hid (HE6.out.trans hE7)
    have HP7 := hid (HP6.out.keep0 hE7)
    clear hE7 HP6 HT6 HE6 HE5
    obtain ⟨b, o, rfl, hta⟩ := (HT.out.keep0 HE7.out).addr (by have := HN.out; omega)
    obtain ⟨fa, fc, htt⟩ := hta j (by have := HN.out; omega)
    obtain ⟨d0, d1, d2, d3, d4, hfo⟩ := htt
    have KP := parts_any (tyAt ts j) fa fc w7 hfo (fun h => by have := HFm.out.2.2.2.2.1 h; omega)
    unfold tyVal at KP
    clear hta hfo
    go_wp2_with fail
    refine KP.mono ?_
    rintro e w8 ⟨qa, qc, rfl, hO8, hE8⟩
    have HQ := hid (own_vs hO8)
    have HE8 := hid (HE7.out.trans hE8)
    have HP8 := hid (HP7.out.keep0 hE8)
    have HBW := hid HFm.out.below
    have HLP := hid HFm.out.length_parts
    have hlp := HLP.out
    have HPW := hid (plain_width HFm.out (by have := HN.out; omega))
    have HMM := hid (made_meas HFm.out (by have := HN.out; omega))
    clear KP hO8 hE8 HP7 HE7 d0 d1 d2 d3 d4
    generalize parts (tyAt ts j) = ps at *
    by_cases hps : ps = []
    · have hw := HPW.out hps
      rw [hw]
      subst hps
      go_wp2_with fail
      go_ret
      exact ⟨rfl, HE8.out⟩
    · have hme := HMM.out hps
      rw [hme] at HP8 ⊢
      have hpl0 : 0 < ps.length := List.length_pos_iff.2 hps
      have hb0 : ((ps.length : Int) == 0) = false := by simp; omega
      obtain ⟨pb, po, rfl, hpc⟩ := Is.at_ (show Is w8 qa ps from HQ.out) hps
      have HPC := hid hpc
      have HPL : Hid ((allPtrs (ms ts) ps).length ≤ 1000) := by
        have := hpl; rw [hme] at this; have h2 := hpd; rw [hme] at h2; have h3 := h16; rw [hme] at h3
        show (allPtrs (ms ts) ps).length ≤ 1000
        simp only at this h2 h3
        omega
      clear hpc hps hme hfit h16 hpl hpd HQ
      go_wp2_with fail
      go_loopw [12, 13, 14, 15] (fun u0 u1 lv u wr => ∃ k : Nat, u = .int .i64 k ∧ k ≤ ps.length ∧ u0 = .int .i64 (sumWidth (ms ts) (ps.take k)) ∧ u1 = .bool (allCmp (ms ts) (ps.take k)) ∧ BOwn w8 wr lv (allPtrs (ms ts) (ps.take k)) ∧ Ext [] w8 wr) (fun _ _ _ u _ => (ps.length - (intOf u)).toNat)
      case atStart => exact ⟨0, rfl, Nat.zero_le _, rfl, rfl, own_nil _ _ _ _, Ext.refl _ _⟩
      case round =>
        obtain ⟨k, rfl, hkl, rfl, rfl, hOk, hEk⟩ := hrel
        have HOk := hid hOk
        have HEk := hid hEk
        clear hOk hEk
        by_cases hkm : k < ps.length
        · have hck := HEk.out.cell (HPC.out k hkm) (by simp)
          have hmem : ps.getD k 0 ∈ ps := by simp [List.getD, hkm]
          obtain ⟨p0, p1, _⟩ := HBW.out _ hmem
          have HSW := hid (sumWidth_snoc (ms ts) ps k hkm)
          have HSC := hid (allCmp_snoc (ms ts) ps k hkm)
          have HSP := hid (allPtrs_snoc (ms ts) ps k hkm)
          have htk := ptrs_take (ms ts) ps k hkm
          have hbd := sum_bd (E := ms ts) (k := 16) (l := ps.take k) (fun p hp => by
            obtain ⟨q0, q1, _⟩ := HBW.out p (List.mem_of_mem_take hp)
            obtain ⟨q, rfl⟩ : ∃ q : Nat, p = q := ⟨p.toNat, by omega⟩
            obtain ⟨hf, h16⟩ := sound_fit HS.out (i := q) (by have := HN.out; omega)
            have := hf.w0; have := hf.d0; have := hf.dw
            show 0 ≤ (M ts q).width ∧ (M ts q).width ≤ 16 ∧ 0 ≤ (M ts q).words ∧ (M ts q).words ≤ 2 * (M ts q).width
            omega)
          have hkl2 : (ps.take k).length ≤ 16 := by rw [List.length_take]; omega
          generalize ps.getD k 0 = x at *
          have hbx : bad ts x = 0 := bad_ok HS.out ⟨p0, by have := HN.out; omega⟩
          have HBX := hid hbx
          have HMX := hid (mo_ok hbx)
          obtain ⟨hfx, h16x⟩ : Fit (M ts x) ∧ (M ts x).width ≤ 16 := by
            obtain ⟨q, rfl⟩ : ∃ q : Nat, x = q := ⟨x.toNat, by omega⟩
            exact sound_fit HS.out (i := q) (by have := HN.out; omega)
          have hfx0 := hfx.w0
          have HTr := hid ((HT.out.keep0 HE8.out).keep0 HEk.out)
          have HGr := hid ((HG.out.keep0 HE8.out).keep0 HEk.out)
          obtain ⟨hs0, hs1, _, _⟩ := hbd
          have HTK : Hid ((allPtrs (ms ts) (ps.take k)).length + (M ts x).ptrs.length ≤ 1000) := Nat.le_trans htk HPL.out
          have hxm : at' (ms ts) x = M ts x := rfl
          rw [hxm] at HSW HSC HSP
          generalize M ts x = mx at *
          clear hmem p0 p1 htk hbx hfx hxm
          go_wp2_with fail
          go_region_held3 (fun w' => w'.cell? ⟨pb, po + k, none⟩ = some (.int .i64 x))
            (first | exact hE21.cell (hE20.cell ((Ext.drew [] _).cell hck (by simp)) (by simp)) (by simp) | exact hE20.cell ((Ext.drew [] _).cell hck (by simp)) (by simp) | go_keep)
            (first
              | (go_at_call 11; refine (copy_any (some ⟨b, o, none⟩) ts n c _ (HTr.out.keep0 (Ext.drew [] _)) HN.out).mono ?_; rintro e w20 ⟨a20, c20, G20, rfl, hac20, _, hT20, hE20⟩)
              | (go_at_call 13; refine (width_any a20 ts n c20 x _ hT20 HN.out hac20 (Gl.keep0 (HGr.out.keep0 (Ext.drew [] _)) hE20)).mono ?_; rintro e w21 ⟨rfl, hE21⟩; rw [HMX.out, HBX.out]))
          have hEa := ((Ext.drew [] wr).trans hE20).trans hE21
          have HEa := hid (HEk.out.trans hEa)
          have HOa : Hid (BOwn w8 w21 _ _) := own_keep0 HOk.out hEa
          have hck := hEa.cell hck (by simp)
          have HTr := hid (HTr.out.keep0 hEa)
          have HGr := hid (HGr.out.keep0 hEa)
          clear hEa hE20 hE21 hT20 hac20
          go_wp2_with fail
          go_region_held3 (fun w' => w'.cell? ⟨pb, po + k, none⟩ = some (.int .i64 x))
            (first | exact hE31.cell (hE30.cell ((Ext.drew [] _).cell hck (by simp)) (by simp)) (by simp) | exact hE30.cell ((Ext.drew [] _).cell hck (by simp)) (by simp) | go_keep)
            (first
              | (go_at_call 11; refine (copy_any (some ⟨b, o, none⟩) ts n c _ (HTr.out.keep0 (Ext.drew [] _)) HN.out).mono ?_; rintro e w30 ⟨a30, c30, G30, rfl, hac30, _, hT30, hE30⟩)
              | (go_at_call 15; refine (pointers_any a30 ts n c30 x _ hT30 HN.out hac30 (Gl.keep0 (HGr.out.keep0 (Ext.drew [] _)) hE30)).mono ?_; rintro e w31 ⟨ya, yc, rfl, hY, hE31, _⟩; rw [HBX.out]; rw [HMX.out] at hY ⊢))
          have hEb := ((Ext.drew [] w21).trans hE30).trans hE31
          have HEb := hid (HEa.out.trans hEb)
          have HOb : Hid (BOwn w8 w31 _ _) := own_keep0 HOa.out hEb
          have HY := hid hY
          have hck := hEb.cell hck (by simp)
          have HTr := hid (HTr.out.keep0 hEb)
          have HGr := hid (HGr.out.keep0 hEb)
          clear hEb hE30 hE31 hT30 hac30 hY HOa HEa
          go_wp2_with fail
          go_region_held3 (fun w' => w'.cell? ⟨pb, po + k, none⟩ = some (.int .i64 x))
            (first | exact hE41.cell (hE40.cell ((Ext.drew [] _).cell hck (by simp)) (by simp)) (by simp) | exact hE40.cell ((Ext.drew [] _).cell hck (by simp)) (by simp) | go_keep)
            (first
              | (go_at_call 11; refine (copy_any (some ⟨b, o, none⟩) ts n c _ (HTr.out.keep0 (Ext.drew [] _)) HN.out).mono ?_; rintro e w40 ⟨a40, c40, G40, rfl, hac40, _, hT40, hE40⟩)
              | (go_at_call 18; refine (compar_any a40 ts n c40 x _ hT40 HN.out hac40 (Gl.keep0 (HGr.out.keep0 (Ext.drew [] _)) hE40)).mono ?_; rintro e w41 ⟨rfl, hE41⟩; rw [HMX.out, HBX.out]))
          have hEc := ((Ext.drew [] w31).trans hE40).trans hE41
          have HEc := hid (HEb.out.trans hEc)
          have hOc := own_keep0 HOb.out hEc
          have hYc := HY.out.keep0 hEc
          obtain ⟨v9, w9, hr9, hO9, hE9, _⟩ := app_own w8 w41 HEc.out 29 29 4 _ 1 Tryd.underlying29 info4 rfl (by omega) _ _ _ hOc ya mx.ptrs.length yc (mx.ptrs.map Value.bool) (by simp) hYc (fun u hu => by obtain ⟨z, _, rfl⟩ := List.mem_map.1 hu; rfl) (by have := HTK.out; omega)
          have HO9 : Hid (BOwn w8 w9 v9 (allPtrs (ms ts) (ps.take (k + 1)))) := by
            show World.ownsRow _ _ _ _ _ _ _
            rw [HSP.out, List.length_append, List.map_append]
            exact hO9
          have HE9 := hid hE9
          clear hEc hE40 hE41 hT40 hac40 hOc hYc hO9 hE9 HY HOb HEb hck
          generalize allCmp (ms ts) (ps.take k) = sc at *
          cases sc
          all_goals
            go_wp2_with (at_builtin; refine wpList_append_run rfl _ _ 29 rfl _ _ _ rfl rfl hr9 ?_)
            go_roundw
            case rel => exact ⟨k + 1, by go_num, by omega, by rw [HSW.out], by rw [HSC.out]; rfl, HO9.out, HE9.out⟩
            case measure => simp [intOf]; omega
        · obtain rfl : k = ps.length := by omega
          have hOf := HOk.out
          rw [List.take_length] at *
          obtain ⟨va, vc, rfl, _⟩ := own_slice hOf
          have KS := sameBools_true pa va (allPtrs (ms ts) ps).length pc vc (allPtrs (ms ts) ps) wr (HP8.out.keep0 HEk.out) (own_vs hOf) rfl HPL.out
          clear hOf
          go_wp2_with fail
          refine KS.mono ?_
          clear KS
          rintro e w50 ⟨rfl, hE50⟩
          have HE50 := hid ((HE8.out.trans HEk.out).trans hE50)
          clear hE50
          go_wp2_with fail
          go_ret
          exact ⟨ret_bool (by simp), HE50.out⟩
  · rw [mo_ptrs hb] at *
    have hx : (bad ts t != 0) = true := by simpa using hb
    generalize bad ts t = x at *
    go_wp2_with fail
    go_ret
    exact ⟨rfl, HE3.out⟩

end Go.Proofs.YtfjbhpjgidgjaaaDoor

namespace Go.Proofs.YtfjbhpjgidgjaaaDoor.typesParts
open Go.ChangeShapes Go.WideShapes Go.ChangeAt Go.RowKit

set_option maxRecDepth 100000 in
theorem lifted (os : Go.Os) (started : os.Started) (H : Type) (enc : TypeId × Value → H) :
    ReturnsInHanded {} Tryd.checked os 6 .any (fun w args => (Rows.typesPartsSpec.pre enc Tryd.prog Tryd.f6 [] false w args ∧ laidMetH Tryd.prog [("heddle/types.partsOf", Rows.laid_heddle_types_partsOf)] w) ∧ sizedMet enc Tryd.prog Tryd.f6 (OpenSpec.ofChange Rows.typesPartsSpec) false w args)
      (Rows.typesPartsSpec.post enc Tryd.prog Tryd.f6 false true false false) := by
  refine returnsInHanded_of_change_and (C := Tryd.checked) (X := fun w _ => laidMetH Tryd.prog [("heddle/types.partsOf", Rows.laid_heddle_types_partsOf)] w) (fun _ _ _ hh h => h.of_heap hh) own started (by kernel_rfl) Tryd.func6
    (ChangeSpec.witness_shaped (enc := enc) (C := Tryd.checked) (os := os) (X := fun w _ => laidMetH Tryd.prog [("heddle/types.partsOf", Rows.laid_heddle_types_partsOf)] w) false (World.laidAll Tryd.prog os [("heddle/types.partsOf", Rows.laid_heddle_types_partsOf)]) #[.slice none 0 0, .int .i64 0] 8 (World.laidAll_os _ _ _)
      (World.shaped_of_ZipB (by kernel_rfl) (by kernel_rfl)) (by kernel_rfl) (by kernel_rfl) (by kernel_rfl)
      (by rw [MakeChecks.laidMetH_plain _ _ _ (by kernel_rfl)]; exact laidMet_laidAll _ (by kernel_rfl) (by kernel_rfl))) ?_
  intro W base args ds gs before hval0 hW _ hsz0 hL _
  have hval : ∀ (j : Nat) t v, Tryd.f6.params[j]? = some t → args[j]? = some v → Value.okWide Tryd.prog W .any base t v := hval0
  have hW' := hW
  obtain ⟨p, q, hA0, hV, rfl, hfz, hnd⟩ := hW
  have hA : DataW.TrodAll enc Tryd.prog W 0 (fun _ => true) true Tryd.f6.params.toList args.toList ds p := hA0
  rw [Tryd.params6] at hA hval
  obtain ⟨v0, vs0, d0, ds0, p0, q0, hargs, rfl, rfl, h0, r0⟩ := trodAll_cons hA
  obtain ⟨v1, vs1, d1, ds1, p1, q1, rfl, rfl, rfl, h1, r1⟩ := trodAll_cons r0
  obtain ⟨rfl, rfl, rfl⟩ := trodAll_nil r1
  obtain rfl : args = #[v0, v1] := by cases args; simp_all
  obtain ⟨rfl, rfl⟩ := trodVars_none hV
  obtain ⟨a1, rfl, rfl, rfl, w1⟩ := open_int Tryd.underlying3 (hval 1 3 v1 rfl rfl) h1
  obtain ⟨a0, len0, cap0, rfl⟩ := okWide_slice Tryd.underlying22 (hval 0 22 v0 rfl rfl)
  have k0 := h0
  have lt0 : ∀ x ∈ p0, x.block < W.heap.size := by obtain ⟨m, hm⟩ := k0; exact DataW.trod_lt m _ _ _ hm
  have hsz : (DataW.weightsEach Tryd.prog [22, 3] [d0, _]).all (· ≤ reachBytes) = true := hsz0
  have hwd : ∀ y ∈ d0.weights Tryd.prog 22, y ≤ 140737488351232 := by
    intro y hy
    have := List.all_eq_true.1 hsz y (DataW.weights_mem_each (j := 0) (t := 22) rfl rfl y hy)
    have h2 := of_decide_eq_true this
    simpa [reachBytes] using h2
  obtain ⟨fuel, hf⟩ := h0
  obtain ⟨ts, hT, hn, _⟩ := open_table (n := len0) (c := cap0) hf hwd
  clear hA0 hval0
  refine (partsOf a0 ts len0 cap0 a1 W hT hn (gl_of hL)).mono fun e W' ⟨he, hext⟩ => ?_
  subst he
  have bel := hext.below
  exact ⟨_, rfl, _, _, _, [], _, [], hW', trodAll_mk1 (shut_bool Tryd.underlying4 _), (trodAll_cons_mk (Below.trod laidOut (by kernel_rfl) (of_decide_eq_true (by kernel_rfl)) k0 bel lt0) (trodAll_cons_mk (shut_int Tryd.underlying3 w1) trodAll_mk0)), rfl, bel.frame _, fun h => by cases h⟩

theorem over : Rows.typesPartsRow.holds Tryd.pinned (OpenSpec.ofChange Rows.typesPartsSpec) :=
  OpenClaim.holds_of_wide 6 Tryd.f6 rfl rfl rfl rfl rfl rfl rfl ⟨rfl, rfl, rfl, rfl, rfl⟩ rfl rfl rfl rfl rfl (by kernel_rfl) Tryd.func6 (by kernel_rfl)
    (of_decide_eq_true (by kernel_rfl)) (by unfold Func.isWrapper; first | (rw [if_pos (by decide +kernel)]; kernel_rfl) | (rw [if_neg (by decide +kernel)]; exact ⟨rfl, rfl⟩))
    (fun os started H enc _ => lifted os started H enc)

theorem card : Rows.TypesPartsCardSaid :=
  Claim7.holds_tied_plain_at .later [] [.data] true (true, "dccc4470837eee4712a4c475a00d14631d066eb7b5e192dd9888e39c476ec522") false over (fun _ h => by cases h) (by kernel_rfl) (fun _ h => by cases h) typesParts_row_tie rfl ⟨rfl, rfl⟩ (by kernel_rfl) rfl
    (fun f fn hf hfn => by
      obtain rfl : f = 6 := Option.some.inj ((show Tryd.prog.funcNamed "heddle/heddlelaw02.TypesParts" = some 6 by kernel_rfl).symm.trans hf) |>.symm
      obtain rfl : fn = Tryd.f6 := (Option.some.inj (Tryd.func6.symm.trans hfn)).symm
      exact ⟨by kernel_rfl, fun j t ht => by
        rw [Tryd.params6] at ht
        have hm : t ∈ [22, 3] := by simpa using Array.mem_of_getElem? ht
        have hall : ([22, 3].all fun u => !Tryd.prog.wantsStandIn u) = true := by kernel_rfl
        exact (show Tryd.prog.wantsStandIn t = false by simpa using List.all_eq_true.1 hall t hm)⟩)
    (by kernel_rfl)

end Go.Proofs.YtfjbhpjgidgjaaaDoor.typesParts

namespace Go.Proofs.YtfjbhpjgidgjaaaDoor
theorem typesParts_holds : Rows.TypesPartsCardSaid := typesParts.card
#print axioms typesParts_holds
end Go.Proofs.YtfjbhpjgidgjaaaDoor
