/-
  Of each size its class, pages and room, of each class its slots, are those of the reference: the function ClassesPlays answers true and leaves its arguments as they were, for every two numbers; the condition is what the program's own table of sizes holds when the call begins.
-/
import Derived.Test.YtmheeibkpgfeeaaDoorOpen
import Derived.Test.YtmheeibkpgfeeaaDoorCards
import Derived.Test.YtmheeibkpgfeeaaDoorTie
namespace Go.Proofs.YtmheeibkpgfeeaaDoor
open Go.RowKit

set_option maxRecDepth 100000 in
set_option maxHeartbeats 4000000 in
theorem classesPlaysWalk (s c : Int) (w : World) (hG : Gl w) : Calls Tryd.prog 3 #[.int .i64 s, .int .i64 c] w (SayPost w (.bool true)) := by
  have HG := hid hG
  have K0 := awake_any w hG
  have K1 := class_any s w hG
  have K2 := rclass_any s w
  have K3 := pages_any s
  have K4 := rpages_any s
  have K5 := room_any s
  have K6 := rroom_any s
  have K7 := slot_any c
  have K8 := rslot_any c
  have K9 := slots_any c
  have K10 := rslots_any c
  clear hG
  generalize clsV s = x1 at *
  generalize clsE s = x2 at *
  generalize pgV s = x3 at *
  generalize pgE s = x4 at *
  generalize rmV s = x5 at *
  generalize slV c = x6 at *
  generalize slE c = x7 at *
  generalize snV c = x8 at *
  go_enter Tryd.func3, Tryd.ntmps3
  go_wp2_with (first
    | (go_at_call 6; refine met K0 ?_)
    | (go_at_call 7; refine met K1 ?_)
    | (go_at_call 8; refine K2.mono ?_; rintro e w1 ⟨rfl, hE1⟩; have HG1 := hid (HG.out.keep0 hE1); have HE1 := hid hE1; clear hE1)
    | (go_at_call 9; refine met (K3 _) ?_)
    | (go_at_call 10; refine met (K4 _) ?_)
    | (go_at_call 11; refine met (K5 _ HG1.out) ?_)
    | (go_at_call 12; refine (K6 _).mono ?_; rintro e w2 ⟨rfl, hE2⟩; have HG2 := hid (HG1.out.keep0 hE2); have HE2 := hid (HE1.out.trans hE2); clear hE2)
    | (go_at_call 13; refine met (K7 _ HG2.out) ?_)
    | (go_at_call 14; refine (K8 _).mono ?_; rintro e w3 ⟨rfl, hE3⟩; have HG3 := hid (HG2.out.keep0 hE3); have HE3 := hid (HE2.out.trans hE3); clear hE3)
    | (go_at_call 15; refine met (K9 _ HG3.out) ?_)
    | (go_at_call 16; refine (K10 _).mono ?_; rintro e w4 ⟨rfl, hE4⟩; have HE4 := hid (HE3.out.trans hE4); clear hE4))
  go_ret
  exact ⟨rfl, HE4.out⟩

end Go.Proofs.YtmheeibkpgfeeaaDoor

namespace Go.Proofs.YtmheeibkpgfeeaaDoor.classesPlays
open Go.ChangeShapes Go.WideShapes Go.ChangeAt Go.RowKit

set_option maxRecDepth 100000 in
theorem lifted (os : Go.Os) (started : os.Started) (H : Type) (enc : TypeId × Value → H) :
    ReturnsInHanded {} Tryd.checked os 3 .any (fun w args => (Rows.classesPlaysSpec.pre enc Tryd.prog Tryd.f3 [] false w args ∧ laidMetH Tryd.prog [("heddle/classes.slots", Rows.laid_heddle_classes_slots)] w) ∧ sizedMet enc Tryd.prog Tryd.f3 (OpenSpec.ofChange Rows.classesPlaysSpec) false w args)
      (Rows.classesPlaysSpec.post enc Tryd.prog Tryd.f3 false true false false) := by
  refine returnsInHanded_of_change_and (C := Tryd.checked) (X := fun w _ => laidMetH Tryd.prog [("heddle/classes.slots", Rows.laid_heddle_classes_slots)] w) (fun _ _ _ hh h => h.of_heap hh) own started (by kernel_rfl) Tryd.func3
    (ChangeSpec.witness_shaped (enc := enc) (C := Tryd.checked) (os := os) (X := fun w _ => laidMetH Tryd.prog [("heddle/classes.slots", Rows.laid_heddle_classes_slots)] w) false (World.laidAll Tryd.prog os [("heddle/classes.slots", Rows.laid_heddle_classes_slots)]) #[.int .i64 0, .int .i64 0] 8 (World.laidAll_os _ _ _)
      (World.shaped_of_ZipB (by kernel_rfl) (by kernel_rfl)) (by kernel_rfl) (by kernel_rfl) (by kernel_rfl)
      (by rw [MakeChecks.laidMetH_plain _ _ _ (by kernel_rfl)]; exact laidMet_laidAll _ (by kernel_rfl) (by kernel_rfl))) ?_
  intro W base args ds gs before hval0 hW _ hsz0 hL _
  have hval : ∀ (j : Nat) t v, Tryd.f3.params[j]? = some t → args[j]? = some v → Value.okWide Tryd.prog W .any base t v := hval0
  have hW' := hW
  obtain ⟨p, q, hA0, hV, rfl, hfz, hnd⟩ := hW
  have hA : DataW.TrodAll enc Tryd.prog W 0 (fun _ => true) true Tryd.f3.params.toList args.toList ds p := hA0
  rw [Tryd.params3] at hA hval
  obtain ⟨v0, vs0, d0, ds0, p0, q0, hargs, rfl, rfl, h0, r0⟩ := trodAll_cons hA
  obtain ⟨v1, vs1, d1, ds1, p1, q1, rfl, rfl, rfl, h1, r1⟩ := trodAll_cons r0
  obtain ⟨rfl, rfl, rfl⟩ := trodAll_nil r1
  obtain rfl : args = #[v0, v1] := by cases args; simp_all
  obtain ⟨rfl, rfl⟩ := trodVars_none hV
  obtain ⟨a0, rfl, rfl, rfl, w0⟩ := open_int Tryd.underlying3 (hval 0 3 v0 rfl rfl) h0
  obtain ⟨a1, rfl, rfl, rfl, w1⟩ := open_int Tryd.underlying3 (hval 1 3 v1 rfl rfl) h1
  clear hA0 hval0
  refine (classesPlaysWalk a0 a1 W (gl_of hL)).mono fun e W' ⟨he, hext⟩ => ?_
  subst he
  have bel := hext.below
  exact ⟨_, rfl, _, _, _, [], _, [], hW', trodAll_mk1 (shut_bool Tryd.underlying4 _), (trodAll_cons_mk (shut_int Tryd.underlying3 w0) (trodAll_cons_mk (shut_int Tryd.underlying3 w1) trodAll_mk0)), rfl, bel.frame _, fun h => by cases h⟩

theorem over : Rows.classesPlaysRow.holds Tryd.pinned (OpenSpec.ofChange Rows.classesPlaysSpec) :=
  OpenClaim.holds_of_wide 3 Tryd.f3 rfl rfl rfl rfl rfl rfl rfl ⟨rfl, rfl, rfl, rfl, rfl⟩ rfl rfl rfl rfl rfl (by kernel_rfl) Tryd.func3 (by kernel_rfl)
    (of_decide_eq_true (by kernel_rfl)) (by unfold Func.isWrapper; first | (rw [if_pos (by decide +kernel)]; kernel_rfl) | (rw [if_neg (by decide +kernel)]; exact ⟨rfl, rfl⟩))
    (fun os started H enc _ => lifted os started H enc)

theorem card : Rows.ClassesPlaysCardSaid :=
  Claim7.holds_tied_plain_at .later [] [.data] true (true, "51bbcbb5ee79136e0bee52f96747fdab6c518be31be86edc7e1324dfa42c3b58") false over (fun _ h => by cases h) (by kernel_rfl) (fun _ h => by cases h) classesPlays_row_tie rfl ⟨rfl, rfl⟩ (by kernel_rfl) rfl
    (fun f fn hf hfn => by
      obtain rfl : f = 3 := Option.some.inj ((show Tryd.prog.funcNamed "heddle/heddlelaw05.ClassesPlays" = some 3 by kernel_rfl).symm.trans hf) |>.symm
      obtain rfl : fn = Tryd.f3 := (Option.some.inj (Tryd.func3.symm.trans hfn)).symm
      exact ⟨by kernel_rfl, fun j t ht => by
        rw [Tryd.params3] at ht
        have hm : t ∈ [3, 3] := by simpa using Array.mem_of_getElem? ht
        have hall : ([3, 3].all fun u => !Tryd.prog.wantsStandIn u) = true := by kernel_rfl
        exact (show Tryd.prog.wantsStandIn t = false by simpa using List.all_eq_true.1 hall t hm)⟩)
    (by kernel_rfl)

end Go.Proofs.YtmheeibkpgfeeaaDoor.classesPlays

namespace Go.Proofs.YtmheeibkpgfeeaaDoor
theorem classesPlays_holds : Rows.ClassesPlaysCardSaid := classesPlays.card
#print axioms classesPlays_holds
end Go.Proofs.YtmheeibkpgfeeaaDoor
