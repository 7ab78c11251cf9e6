/-
  Any bytes are read as the document says: the function TypesReads answers true and leaves its argument as it was, for every list of bytes; the condition is what the program's own table of parts holds when the call begins.
-/
import Derived.Test.YtfjbhpjgidgjaaaDoorRefT
import Derived.Test.YtfjbhpjgidgjaaaDoorSame
import Derived.Test.YtfjbhpjgidgjaaaDoorBytes
import Derived.Test.YtfjbhpjgidgjaaaDoorCards
import Derived.Test.YtfjbhpjgidgjaaaDoorTie
namespace Go.Proofs.YtfjbhpjgidgjaaaDoor
open Go.RowKit

set_option maxRecDepth 100000 in
set_option maxHeartbeats 2000000 in
theorem readsOf (a : Option Addr) (L : List Int) (n c : Nat) (w : World) (hI : Inp w a n c L) (hb : n ≤ 140737488351232) (hG : Gl w) :
    Calls Tryd.prog 4 #[.slice a n c] w (SayPost w (.bool true)) := by
  have HI := hid hI
  have HG := hid hG
  clear hI hG
  go_enter Tryd.func4, Tryd.ntmps4
  go_wp2_with fail
  refine (awake_any w HG.out).mono ?_
  rintro e w1 ⟨rfl, hE1⟩
  have HE1 := hid hE1
  obtain ⟨a2, c2, w2, hr, hI2, hE2⟩ := bytes_copy w1 (HI.out.keep0 hE1) hb
  have HI2 := hid hI2
  have HE2 := hid (HE1.out.trans hE2)
  clear hE1 hI2 hE2
  go_wp2_with (at_builtin; refine wpList_append_run rfl _ _ 36 rfl _ _ _ rfl rfl hr ?_)
  refine (decode_any a2 L n c2 w2 HI2.out (HG.out.keep0 HE2.out)).mono ?_
  rintro e w3 ⟨a3, c3, G3, rfl, hc3, _, hT3, hE3⟩
  have HE3 := hid (HE2.out.trans hE3)
  have HT3 := hid hT3
  clear hE3 hT3 hr
  go_wp2_with fail
  refine (rdecode_any a L n c w3 (HI.out.keep0 HE3.out)).mono ?_
  rintro e w4 ⟨a4, c4, G4, rfl, hc4, _, hT4, hE4⟩
  have HE4 := hid (HE3.out.trans hE4)
  have HT4 := hid hT4
  have HT34 := hid (HT3.out.keep0 hE4)
  clear hE4 hT4
  generalize dec L = r at *
  obtain ⟨ts, x, k⟩ := r
  simp only at HT4 HT34 ⊢
  go_wp2_with fail
  refine (same_true a3 a4 ts.length c3 c4 ts w4 HT34.out HT4.out rfl).mono ?_
  rintro e w5 ⟨rfl, hE5⟩
  have HE5 := hid (HE4.out.trans hE5)
  clear hE5
  go_wp2_with fail
  go_ret
  exact ⟨ret_bool (by simp), HE5.out⟩

end Go.Proofs.YtfjbhpjgidgjaaaDoor

namespace Go.Proofs.YtfjbhpjgidgjaaaDoor.typesReads
open Go.ChangeShapes Go.WideShapes Go.ChangeAt Go.RowKit

set_option maxRecDepth 100000 in
theorem lifted (os : Go.Os) (started : os.Started) (H : Type) (enc : TypeId × Value → H) :
    ReturnsInHanded {} Tryd.checked os 4 .any (fun w args => (Rows.typesReadsSpec.pre enc Tryd.prog Tryd.f4 [] false w args ∧ laidMetH Tryd.prog [("heddle/types.partsOf", Rows.laid_heddle_types_partsOf)] w) ∧ sizedMet enc Tryd.prog Tryd.f4 (OpenSpec.ofChange Rows.typesReadsSpec) false w args)
      (Rows.typesReadsSpec.post enc Tryd.prog Tryd.f4 false true false false) := by
  refine returnsInHanded_of_change_and (C := Tryd.checked) (X := fun w _ => laidMetH Tryd.prog [("heddle/types.partsOf", Rows.laid_heddle_types_partsOf)] w) (fun _ _ _ hh h => h.of_heap hh) own started (by kernel_rfl) Tryd.func4
    (ChangeSpec.witness_shaped (enc := enc) (C := Tryd.checked) (os := os) (X := fun w _ => laidMetH Tryd.prog [("heddle/types.partsOf", Rows.laid_heddle_types_partsOf)] w) false (World.laidAll Tryd.prog os [("heddle/types.partsOf", Rows.laid_heddle_types_partsOf)]) #[.slice none 0 0] 8 (World.laidAll_os _ _ _)
      (World.shaped_of_ZipB (by kernel_rfl) (by kernel_rfl)) (by kernel_rfl) (by kernel_rfl) (by kernel_rfl)
      (by rw [MakeChecks.laidMetH_plain _ _ _ (by kernel_rfl)]; exact laidMet_laidAll _ (by kernel_rfl) (by kernel_rfl))) ?_
  intro W base args ds gs before hval0 hW _ hsz0 hL _
  have hval : ∀ (j : Nat) t v, Tryd.f4.params[j]? = some t → args[j]? = some v → Value.okWide Tryd.prog W .any base t v := hval0
  have hW' := hW
  obtain ⟨p, q, hA0, hV, rfl, hfz, hnd⟩ := hW
  have hA : DataW.TrodAll enc Tryd.prog W 0 (fun _ => true) true Tryd.f4.params.toList args.toList ds p := hA0
  rw [Tryd.params4] at hA hval
  obtain ⟨v0, vs0, d0, ds0, p0, q0, hargs, rfl, rfl, h0, r0⟩ := trodAll_cons hA
  obtain ⟨rfl, rfl, rfl⟩ := trodAll_nil r0
  obtain rfl : args = #[v0] := by cases args; simp_all
  obtain ⟨rfl, rfl⟩ := trodVars_none hV
  obtain ⟨a0, len0, cap0, rfl⟩ := okWide_slice Tryd.underlying36 (hval 0 36 v0 rfl rfl)
  have k0 := h0
  have lt0 : ∀ x ∈ p0, x.block < W.heap.size := by obtain ⟨m, hm⟩ := k0; exact DataW.trod_lt m _ _ _ hm
  have hsz : (DataW.weightsEach Tryd.prog [36] [d0]).all (· ≤ reachBytes) = true := hsz0
  have hwd : ∀ y ∈ d0.weights Tryd.prog 36, y ≤ 140737488351232 := by
    intro y hy
    have := List.all_eq_true.1 hsz y (DataW.weights_mem_each (j := 0) (t := 36) rfl rfl y hy)
    have h2 := of_decide_eq_true this
    simpa [reachBytes] using h2
  obtain ⟨fuel, hf⟩ := h0
  obtain ⟨L, hI, hb⟩ := open_bytes (n := len0) (c := cap0) hf hwd
  clear hA0 hval0
  refine (readsOf a0 L len0 cap0 W hI hb (gl_of hL)).mono fun e W' ⟨he, hext⟩ => ?_
  subst he
  have bel := hext.below
  exact ⟨_, rfl, _, _, _, [], _, [], hW', trodAll_mk1 (shut_bool Tryd.underlying4 _), (trodAll_cons_mk (Below.trod laidOut (by kernel_rfl) (of_decide_eq_true (by kernel_rfl)) k0 bel lt0) trodAll_mk0), rfl, bel.frame _, fun h => by cases h⟩

theorem over : Rows.typesReadsRow.holds Tryd.pinned (OpenSpec.ofChange Rows.typesReadsSpec) :=
  OpenClaim.holds_of_wide 4 Tryd.f4 rfl rfl rfl rfl rfl rfl rfl ⟨rfl, rfl, rfl, rfl, rfl⟩ rfl rfl rfl rfl rfl (by kernel_rfl) Tryd.func4 (by kernel_rfl)
    (of_decide_eq_true (by kernel_rfl)) (by unfold Func.isWrapper; first | (rw [if_pos (by decide +kernel)]; kernel_rfl) | (rw [if_neg (by decide +kernel)]; exact ⟨rfl, rfl⟩))
    (fun os started H enc _ => lifted os started H enc)

theorem card : Rows.TypesReadsCardSaid :=
  Claim7.holds_tied_plain_at .later [] [.data] true (true, "dccc4470837eee4712a4c475a00d14631d066eb7b5e192dd9888e39c476ec522") false over (fun _ h => by cases h) (by kernel_rfl) (fun _ h => by cases h) typesReads_row_tie rfl ⟨rfl, rfl⟩ (by kernel_rfl) rfl
    (fun f fn hf hfn => by
      obtain rfl : f = 4 := Option.some.inj ((show Tryd.prog.funcNamed "heddle/heddlelaw02.TypesReads" = some 4 by kernel_rfl).symm.trans hf) |>.symm
      obtain rfl : fn = Tryd.f4 := (Option.some.inj (Tryd.func4.symm.trans hfn)).symm
      exact ⟨by kernel_rfl, fun j t ht => by
        rw [Tryd.params4] at ht
        have hm : t ∈ [36] := by simpa using Array.mem_of_getElem? ht
        have hall : ([36].all fun u => !Tryd.prog.wantsStandIn u) = true := by kernel_rfl
        exact (show Tryd.prog.wantsStandIn t = false by simpa using List.all_eq_true.1 hall t hm)⟩)
    (by kernel_rfl)

end Go.Proofs.YtfjbhpjgidgjaaaDoor.typesReads

namespace Go.Proofs.YtfjbhpjgidgjaaaDoor
theorem typesReads_holds : Rows.TypesReadsCardSaid := typesReads.card
#print axioms typesReads_holds
end Go.Proofs.YtfjbhpjgidgjaaaDoor
