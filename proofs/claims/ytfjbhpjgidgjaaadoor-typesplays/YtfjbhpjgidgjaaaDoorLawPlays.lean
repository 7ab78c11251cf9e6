/-
  Which tables are sound, and of each type how wide it is, which of its words are pointers, and whether it can be compared: the function TypesPlays answers true and leaves its arguments as they were, for every table and every number; the condition is what the program's own table of parts holds when the call begins.
-/
import Derived.Test.YtfjbhpjgidgjaaaDoorRefF
import Derived.Test.YtfjbhpjgidgjaaaDoorOpen
import Derived.Test.YtfjbhpjgidgjaaaDoorCards
import Derived.Test.YtfjbhpjgidgjaaaDoorTie
namespace Go.Proofs.YtfjbhpjgidgjaaaDoor
open Go.RowKit

theorem mo_len (ts : List Ty) (t : Int) : (mo ts t).words = (mo ts t).ptrs.length ∧ (mo ts t).ptrs.length ≤ 1000 := by
  by_cases hb : bad ts t = 0
  · obtain ⟨hs, t0, t1⟩ := bad_zero hb
    obtain ⟨j, rfl⟩ : ∃ j : Nat, t = j := ⟨t.toNat, by omega⟩
    rw [mo_ok hb]
    obtain ⟨hf, h16⟩ := sound_fit hs (i := j) (by omega)
    have := hf.len; have := hf.dw
    exact ⟨hf.len, by omega⟩
  · rw [mo_no hb]; simp [zeroMe]

set_option maxRecDepth 100000 in
set_option maxHeartbeats 4000000 in
theorem playsOf (a : Option Addr) (ts : List Ty) (n c : Nat) (t : Int) (w : World) (hT : Tab w a ts) (hn : ts.length = n) (hG : Gl w) :
    Calls Tryd.prog 3 #[.slice a n c, .int .i64 t] w (SayPost w (.bool true)) := by
  have HT := hid hT
  have HN := hid hn
  have HG := hid hG
  have KC := fun W (h : Ext [] w W) => copy_any a ts n c W (hT.keep0 h) hn
  have HKC := hid KC
  have KR0 := fun W (h : Ext [] w W) => rcheck_any a ts n c W (hT.keep0 h) hn
  have KR1 := fun W (h : Ext [] w W) => rwidth_any a ts n c t W (hT.keep0 h) hn
  have KR2 := fun W (h : Ext [] w W) => rpointers_any a ts n c t W (hT.keep0 h) hn
  have KR3 := fun W (h : Ext [] w W) => rcompar_any a ts n c t W (hT.keep0 h) hn
  have KP0 := fun W a' c' (h : Ext [] w W) (hT' : Tab W a' ts) (hc : n ≤ c') => check_any a' ts n c' W hT' hn hc (hG.keep0 h)
  have KP1 := fun W a' c' (h : Ext [] w W) (hT' : Tab W a' ts) (hc : n ≤ c') => width_any a' ts n c' t W hT' hn hc (hG.keep0 h)
  have KP2 := fun W a' c' (h : Ext [] w W) (hT' : Tab W a' ts) (hc : n ≤ c') => pointers_any a' ts n c' t W hT' hn hc (hG.keep0 h)
  have KP3 := fun W a' c' (h : Ext [] w W) (hT' : Tab W a' ts) (hc : n ≤ c') => words_any a' ts n c' t W hT' hn hc (hG.keep0 h)
  have KP4 := fun W a' c' (h : Ext [] w W) (hT' : Tab W a' ts) (hc : n ≤ c') => compar_any a' ts n c' t W hT' hn hc (hG.keep0 h)
  have hml := mo_len ts t
  have HML := hid hml
  clear hT hn hG KC hml
  generalize mo ts t = m at *
  generalize bad ts t = x at *
  generalize chk ts = y at *
  have H0 := hid KR0
  have H1 := hid KR1
  have H2 := hid KR2
  have H3 := hid KR3
  have P0 := hid KP0
  have P1 := hid KP1
  have P2 := hid KP2
  have P3 := hid KP3
  have P4 := hid KP4
  clear KR0 KR1 KR2 KR3 KP0 KP1 KP2 KP3 KP4
  go_enter Tryd.func3, Tryd.ntmps3
  go_wp2_with fail
  refine (awake_any w HG.out).mono ?_
  rintro e w1 ⟨rfl, hE1⟩
  have HE1 := hid hE1
  clear hE1
  go_wp2_with fail
  refine (HKC.out w1 HE1.out).mono ?_
  rintro e w2 ⟨a2, c2, G2, rfl, hac2, _, hT2, hE2⟩
  have HE2 := hid (HE1.out.trans hE2)
  have HT2 := hid hT2
  clear hE2 hT2
  go_wp2_with fail
  refine (P0.out w2 a2 c2 HE2.out HT2.out hac2).mono ?_
  rintro e w3 ⟨rfl, hE3⟩
  have HE3 := hid (HE2.out.trans hE3)
  clear hE3
  go_wp2_with fail
  refine (H0.out w3 HE3.out).mono ?_
  rintro e w4 ⟨rfl, hE4⟩
  have HE4 := hid (HE3.out.trans hE4)
  clear hE4 HE3 HE2 HE1 HT2
  go_wp2_with fail
  refine (HKC.out w4 HE4.out).mono ?_
  rintro e w5 ⟨a5, c5, G5, rfl, hac5, _, hT5, hE5⟩
  have HE5 := hid (HE4.out.trans hE5)
  have HT5 := hid hT5
  clear hE5 hT5
  go_wp2_with fail
  refine (P1.out w5 a5 c5 HE5.out HT5.out hac5).mono ?_
  rintro e w6 ⟨rfl, hE6⟩
  have HE6 := hid (HE5.out.trans hE6)
  clear hE6 HE4 HT5 HE5
  go_wp2_with fail
  refine (H1.out w6 HE6.out).mono ?_
  rintro e w7 ⟨rfl, hE7⟩
  have HE7 := hid (HE6.out.trans hE7)
  clear hE7 HE6
  go_wp2_with fail
  refine (HKC.out w7 HE7.out).mono ?_
  rintro e w8 ⟨a8, c8, G8, rfl, hac8, _, hT8, hE8⟩
  have HE8 := hid (HE7.out.trans hE8)
  have HT8 := hid hT8
  clear hE8 hT8 HE7
  go_wp2_with fail
  refine (P2.out w8 a8 c8 HE8.out HT8.out hac8).mono ?_
  rintro e w9 ⟨pa, pc, rfl, hP, hE9, _⟩
  have HE9 := hid (HE8.out.trans hE9)
  have HP9 := hid hP
  clear hE9 hP HE8 HT8
  go_wp2_with fail
  refine (H2.out w9 HE9.out).mono ?_
  rintro e w10 ⟨qa, qc, rfl, hQ, hE10⟩
  have HE10 := hid (HE9.out.trans hE10)
  have HP10 := hid (HP9.out.keep0 hE10)
  have HQ10 := hid hQ
  clear hE10 hQ HE9 HP9
  go_wp2_with fail
  refine (HKC.out w10 HE10.out).mono ?_
  rintro e w11 ⟨a11, c11, G11, rfl, hac11, _, hT11, hE11⟩
  have HE11 := hid (HE10.out.trans hE11)
  have HP11 := hid (HP10.out.keep0 hE11)
  have HQ11 := hid (HQ10.out.keep0 hE11)
  have HT11 := hid hT11
  clear hE11 hT11 HE10 HP10 HQ10
  go_wp2_with fail
  refine (P3.out w11 a11 c11 HE11.out HT11.out hac11).mono ?_
  rintro e w12 ⟨rfl, hE12⟩
  have HE12 := hid (HE11.out.trans hE12)
  have HP12 := hid (HP11.out.keep0 hE12)
  have HQ12 := hid (HQ11.out.keep0 hE12)
  clear hE12 HE11 HP11 HQ11 HT11
  go_wp2_with fail
  refine (HKC.out w12 HE12.out).mono ?_
  rintro e w13 ⟨a13, c13, G13, rfl, hac13, _, hT13, hE13⟩
  have HE13 := hid (HE12.out.trans hE13)
  have HP13 := hid (HP12.out.keep0 hE13)
  have HQ13 := hid (HQ12.out.keep0 hE13)
  have HT13 := hid hT13
  clear hE13 hT13 HE12 HP12 HQ12
  go_wp2_with fail
  refine (P4.out w13 a13 c13 HE13.out HT13.out hac13).mono ?_
  rintro e w14 ⟨rfl, hE14⟩
  have HE14 := hid (HE13.out.trans hE14)
  have HP14 := hid (HP13.out.keep0 hE14)
  have HQ14 := hid (HQ13.out.keep0 hE14)
  clear hE14 HE13 HP13 HQ13 HT13
  go_wp2_with fail
  refine (H3.out w14 HE14.out).mono ?_
  rintro e w15 ⟨rfl, hE15⟩
  have HE15 := hid (HE14.out.trans hE15)
  have HP15 := hid (HP14.out.keep0 hE15)
  have HQ15 := hid (HQ14.out.keep0 hE15)
  clear hE15 HE14 HP14 HQ14
  have KS := sameBools_true pa qa m.ptrs.length pc qc m.ptrs w15 HP15.out HQ15.out rfl HML.out.2
  rw [HML.out.1]
  go_wp2_with fail
  refine KS.mono ?_
  clear KS
  rintro e w16 ⟨rfl, hE16⟩
  have HE16 := hid (HE15.out.trans hE16)
  clear hE16
  go_wp2_with fail
  go_ret
  exact ⟨ret_bool (by simp), HE16.out⟩

end Go.Proofs.YtfjbhpjgidgjaaaDoor

namespace Go.Proofs.YtfjbhpjgidgjaaaDoor.typesPlays
open Go.ChangeShapes Go.WideShapes Go.ChangeAt Go.RowKit

set_option maxRecDepth 100000 in
theorem lifted (os : Go.Os) (started : os.Started) (H : Type) (enc : TypeId × Value → H) :
    ReturnsInHanded {} Tryd.checked os 3 .any (fun w args => (Rows.typesPlaysSpec.pre enc Tryd.prog Tryd.f3 [] false w args ∧ laidMetH Tryd.prog [("heddle/types.partsOf", Rows.laid_heddle_types_partsOf)] w) ∧ sizedMet enc Tryd.prog Tryd.f3 (OpenSpec.ofChange Rows.typesPlaysSpec) false w args)
      (Rows.typesPlaysSpec.post enc Tryd.prog Tryd.f3 false true false false) := by
  refine returnsInHanded_of_change_and (C := Tryd.checked) (X := fun w _ => laidMetH Tryd.prog [("heddle/types.partsOf", Rows.laid_heddle_types_partsOf)] w) (fun _ _ _ hh h => h.of_heap hh) own started (by kernel_rfl) Tryd.func3
    (ChangeSpec.witness_shaped (enc := enc) (C := Tryd.checked) (os := os) (X := fun w _ => laidMetH Tryd.prog [("heddle/types.partsOf", Rows.laid_heddle_types_partsOf)] w) false (World.laidAll Tryd.prog os [("heddle/types.partsOf", Rows.laid_heddle_types_partsOf)]) #[.slice none 0 0, .int .i64 0] 8 (World.laidAll_os _ _ _)
      (World.shaped_of_ZipB (by kernel_rfl) (by kernel_rfl)) (by kernel_rfl) (by kernel_rfl) (by kernel_rfl)
      (by rw [MakeChecks.laidMetH_plain _ _ _ (by kernel_rfl)]; exact laidMet_laidAll _ (by kernel_rfl) (by kernel_rfl))) ?_
  intro W base args ds gs before hval0 hW _ hsz0 hL _
  have hval : ∀ (j : Nat) t v, Tryd.f3.params[j]? = some t → args[j]? = some v → Value.okWide Tryd.prog W .any base t v := hval0
  have hW' := hW
  obtain ⟨p, q, hA0, hV, rfl, hfz, hnd⟩ := hW
  have hA : DataW.TrodAll enc Tryd.prog W 0 (fun _ => true) true Tryd.f3.params.toList args.toList ds p := hA0
  rw [Tryd.params3] at hA hval
  obtain ⟨v0, vs0, d0, ds0, p0, q0, hargs, rfl, rfl, h0, r0⟩ := trodAll_cons hA
  obtain ⟨v1, vs1, d1, ds1, p1, q1, rfl, rfl, rfl, h1, r1⟩ := trodAll_cons r0
  obtain ⟨rfl, rfl, rfl⟩ := trodAll_nil r1
  obtain rfl : args = #[v0, v1] := by cases args; simp_all
  obtain ⟨rfl, rfl⟩ := trodVars_none hV
  obtain ⟨a1, rfl, rfl, rfl, w1⟩ := open_int Tryd.underlying3 (hval 1 3 v1 rfl rfl) h1
  obtain ⟨a0, len0, cap0, rfl⟩ := okWide_slice Tryd.underlying22 (hval 0 22 v0 rfl rfl)
  have k0 := h0
  have lt0 : ∀ x ∈ p0, x.block < W.heap.size := by obtain ⟨m, hm⟩ := k0; exact DataW.trod_lt m _ _ _ hm
  have hsz : (DataW.weightsEach Tryd.prog [22, 3] [d0, _]).all (· ≤ reachBytes) = true := hsz0
  have hwd : ∀ y ∈ d0.weights Tryd.prog 22, y ≤ 140737488351232 := by
    intro y hy
    have := List.all_eq_true.1 hsz y (DataW.weights_mem_each (j := 0) (t := 22) rfl rfl y hy)
    have h2 := of_decide_eq_true this
    simpa [reachBytes] using h2
  obtain ⟨fuel, hf⟩ := h0
  obtain ⟨ts, hT, hn, _⟩ := open_table (n := len0) (c := cap0) hf hwd
  clear hA0 hval0
  refine (playsOf a0 ts len0 cap0 a1 W hT hn (gl_of hL)).mono fun e W' ⟨he, hext⟩ => ?_
  subst he
  have bel := hext.below
  exact ⟨_, rfl, _, _, _, [], _, [], hW', trodAll_mk1 (shut_bool Tryd.underlying4 _), (trodAll_cons_mk (Below.trod laidOut (by kernel_rfl) (of_decide_eq_true (by kernel_rfl)) k0 bel lt0) (trodAll_cons_mk (shut_int Tryd.underlying3 w1) trodAll_mk0)), rfl, bel.frame _, fun h => by cases h⟩

theorem over : Rows.typesPlaysRow.holds Tryd.pinned (OpenSpec.ofChange Rows.typesPlaysSpec) :=
  OpenClaim.holds_of_wide 3 Tryd.f3 rfl rfl rfl rfl rfl rfl rfl ⟨rfl, rfl, rfl, rfl, rfl⟩ rfl rfl rfl rfl rfl (by kernel_rfl) Tryd.func3 (by kernel_rfl)
    (of_decide_eq_true (by kernel_rfl)) (by unfold Func.isWrapper; first | (rw [if_pos (by decide +kernel)]; kernel_rfl) | (rw [if_neg (by decide +kernel)]; exact ⟨rfl, rfl⟩))
    (fun os started H enc _ => lifted os started H enc)

theorem card : Rows.TypesPlaysCardSaid :=
  Claim7.holds_tied_plain_at .later [] [.data] true (true, "dccc4470837eee4712a4c475a00d14631d066eb7b5e192dd9888e39c476ec522") false over (fun _ h => by cases h) (by kernel_rfl) (fun _ h => by cases h) typesPlays_row_tie rfl ⟨rfl, rfl⟩ (by kernel_rfl) rfl
    (fun f fn hf hfn => by
      obtain rfl : f = 3 := Option.some.inj ((show Tryd.prog.funcNamed "heddle/heddlelaw02.TypesPlays" = some 3 by kernel_rfl).symm.trans hf) |>.symm
      obtain rfl : fn = Tryd.f3 := (Option.some.inj (Tryd.func3.symm.trans hfn)).symm
      exact ⟨by kernel_rfl, fun j t ht => by
        rw [Tryd.params3] at ht
        have hm : t ∈ [22, 3] := by simpa using Array.mem_of_getElem? ht
        have hall : ([22, 3].all fun u => !Tryd.prog.wantsStandIn u) = true := by kernel_rfl
        exact (show Tryd.prog.wantsStandIn t = false by simpa using List.all_eq_true.1 hall t hm)⟩)
    (by kernel_rfl)

end Go.Proofs.YtfjbhpjgidgjaaaDoor.typesPlays

namespace Go.Proofs.YtfjbhpjgidgjaaaDoor
theorem typesPlays_holds : Rows.TypesPlaysCardSaid := typesPlays.card
#print axioms typesPlays_holds
end Go.Proofs.YtfjbhpjgidgjaaaDoor
