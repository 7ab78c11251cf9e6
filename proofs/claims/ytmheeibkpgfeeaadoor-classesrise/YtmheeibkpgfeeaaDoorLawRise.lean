/-
  A larger size has no smaller room and no fewer pages: the function ClassesRise answers true and leaves its arguments as they were, for every two numbers; the condition is what the program's own table of sizes holds when the call begins.
-/
import Derived.Test.YtmheeibkpgfeeaaDoorOpen
import Derived.Test.YtmheeibkpgfeeaaDoorCards
import Derived.Test.YtmheeibkpgfeeaaDoorTie
namespace Go.Proofs.YtmheeibkpgfeeaaDoor
open Go.RowKit

theorem rm_mono {a b : Int} (h : a ≤ b) (ha : Ok a) (hb : Ok b) : rmV a ≤ rmV b ∧ pgV a ≤ pgV b := by
  rw [rmV, rmV, pgV, pgV, if_pos ha, if_pos hb, if_pos ha, if_pos hb]
  obtain ⟨a1, a2⟩ := ha
  obtain ⟨b1, b2⟩ := hb
  refine ⟨?_, by omega⟩
  have hla := sz_le (clsN_lt a)
  split
  · split
    · unfold clsN
      repeat' split
      all_goals (simp [sz]; try omega)
    · omega
  · split
    · omega
    · omega

theorem pe_cases (s : Int) : (pgE s = 0 ∧ Ok s) ∨ pgE s = 2 := by
  by_cases h : Ok s
  · exact .inl ⟨by rw [pgE, if_pos h], h⟩
  · exact .inr (by rw [pgE, if_neg h])

set_option maxRecDepth 100000 in
set_option maxHeartbeats 4000000 in
theorem riseWalk (a b l h : Int) (w : World) (hG : Gl w) (hmin : (l = a ∧ h = b ∧ a ≤ b) ∨ (l = b ∧ h = a ∧ b < a)) : Calls Tryd.prog 5 #[.int .i64 a, .int .i64 b] w (SayPost w (.bool true)) := by
  have K0 := awake_any w hG
  have K1 := fun s => room_any s w hG
  have K2 := fun s => pages_any s w
  clear hG
  have M : Ok l → Ok h → rmV l ≤ rmV h ∧ pgV l ≤ pgV h := rm_mono (by omega)
  have ca := pe_cases l
  have cb := pe_cases h
  generalize rmV = f at *
  generalize pgE = g at *
  generalize pgV = r at *
  rcases hmin with ⟨rfl, rfl, hab⟩ | ⟨rfl, rfl, hab⟩
  all_goals
    have e1 : min l h = l := by omega
    have e2 : max l h = h := by omega
    have e3 : min h l = l := by omega
    have e4 : max h l = h := by omega
    clear hab
    rcases ca with ⟨ea, oa⟩ | ea
    · rcases cb with ⟨eb, ob⟩ | eb
      · obtain ⟨m1, m2⟩ := M oa ob
        clear M oa ob
        go_enter Tryd.func5, Tryd.ntmps5
        go_wp2_with (first | (go_at_call 6; refine met K0 ?_) | (go_at_call 11; refine met (K1 _) ?_) | (go_at_call 9; refine met (K2 _) ?_))
        go_ret
        exact ⟨rfl, Ext.refl _ _⟩
      · clear M oa
        go_enter Tryd.func5, Tryd.ntmps5
        go_wp2_with (first | (go_at_call 6; refine met K0 ?_) | (go_at_call 11; refine met (K1 _) ?_) | (go_at_call 9; refine met (K2 _) ?_))
        go_ret
        exact ⟨rfl, Ext.refl _ _⟩
    · clear M cb
      go_enter Tryd.func5, Tryd.ntmps5
      go_wp2_with (first | (go_at_call 6; refine met K0 ?_) | (go_at_call 11; refine met (K1 _) ?_) | (go_at_call 9; refine met (K2 _) ?_))
      go_ret
      exact ⟨rfl, Ext.refl _ _⟩

theorem classesRiseWalk (a b : Int) (w : World) (hG : Gl w) : Calls Tryd.prog 5 #[.int .i64 a, .int .i64 b] w (SayPost w (.bool true)) := by
  by_cases h : a ≤ b
  · exact riseWalk a b a b w hG (.inl ⟨rfl, rfl, h⟩)
  · exact riseWalk a b b a w hG (.inr ⟨rfl, rfl, by omega⟩)

end Go.Proofs.YtmheeibkpgfeeaaDoor

namespace Go.Proofs.YtmheeibkpgfeeaaDoor.classesRise
open Go.ChangeShapes Go.WideShapes Go.ChangeAt Go.RowKit

set_option maxRecDepth 100000 in
theorem lifted (os : Go.Os) (started : os.Started) (H : Type) (enc : TypeId × Value → H) :
    ReturnsInHanded {} Tryd.checked os 5 .any (fun w args => (Rows.classesRiseSpec.pre enc Tryd.prog Tryd.f5 [] false w args ∧ laidMetH Tryd.prog [("heddle/classes.slots", Rows.laid_heddle_classes_slots)] w) ∧ sizedMet enc Tryd.prog Tryd.f5 (OpenSpec.ofChange Rows.classesRiseSpec) false w args)
      (Rows.classesRiseSpec.post enc Tryd.prog Tryd.f5 false true false false) := by
  refine returnsInHanded_of_change_and (C := Tryd.checked) (X := fun w _ => laidMetH Tryd.prog [("heddle/classes.slots", Rows.laid_heddle_classes_slots)] w) (fun _ _ _ hh h => h.of_heap hh) own started (by kernel_rfl) Tryd.func5
    (ChangeSpec.witness_shaped (enc := enc) (C := Tryd.checked) (os := os) (X := fun w _ => laidMetH Tryd.prog [("heddle/classes.slots", Rows.laid_heddle_classes_slots)] w) false (World.laidAll Tryd.prog os [("heddle/classes.slots", Rows.laid_heddle_classes_slots)]) #[.int .i64 0, .int .i64 0] 8 (World.laidAll_os _ _ _)
      (World.shaped_of_ZipB (by kernel_rfl) (by kernel_rfl)) (by kernel_rfl) (by kernel_rfl) (by kernel_rfl)
      (by rw [MakeChecks.laidMetH_plain _ _ _ (by kernel_rfl)]; exact laidMet_laidAll _ (by kernel_rfl) (by kernel_rfl))) ?_
  intro W base args ds gs before hval0 hW _ hsz0 hL _
  have hval : ∀ (j : Nat) t v, Tryd.f5.params[j]? = some t → args[j]? = some v → Value.okWide Tryd.prog W .any base t v := hval0
  have hW' := hW
  obtain ⟨p, q, hA0, hV, rfl, hfz, hnd⟩ := hW
  have hA : DataW.TrodAll enc Tryd.prog W 0 (fun _ => true) true Tryd.f5.params.toList args.toList ds p := hA0
  rw [Tryd.params5] at hA hval
  obtain ⟨v0, vs0, d0, ds0, p0, q0, hargs, rfl, rfl, h0, r0⟩ := trodAll_cons hA
  obtain ⟨v1, vs1, d1, ds1, p1, q1, rfl, rfl, rfl, h1, r1⟩ := trodAll_cons r0
  obtain ⟨rfl, rfl, rfl⟩ := trodAll_nil r1
  obtain rfl : args = #[v0, v1] := by cases args; simp_all
  obtain ⟨rfl, rfl⟩ := trodVars_none hV
  obtain ⟨a0, rfl, rfl, rfl, w0⟩ := open_int Tryd.underlying3 (hval 0 3 v0 rfl rfl) h0
  obtain ⟨a1, rfl, rfl, rfl, w1⟩ := open_int Tryd.underlying3 (hval 1 3 v1 rfl rfl) h1
  clear hA0 hval0
  refine (classesRiseWalk a0 a1 W (gl_of hL)).mono fun e W' ⟨he, hext⟩ => ?_
  subst he
  have bel := hext.below
  exact ⟨_, rfl, _, _, _, [], _, [], hW', trodAll_mk1 (shut_bool Tryd.underlying4 _), (trodAll_cons_mk (shut_int Tryd.underlying3 w0) (trodAll_cons_mk (shut_int Tryd.underlying3 w1) trodAll_mk0)), rfl, bel.frame _, fun h => by cases h⟩

theorem over : Rows.classesRiseRow.holds Tryd.pinned (OpenSpec.ofChange Rows.classesRiseSpec) :=
  OpenClaim.holds_of_wide 5 Tryd.f5 rfl rfl rfl rfl rfl rfl rfl ⟨rfl, rfl, rfl, rfl, rfl⟩ rfl rfl rfl rfl rfl (by kernel_rfl) Tryd.func5 (by kernel_rfl)
    (of_decide_eq_true (by kernel_rfl)) (by unfold Func.isWrapper; first | (rw [if_pos (by decide +kernel)]; kernel_rfl) | (rw [if_neg (by decide +kernel)]; exact ⟨rfl, rfl⟩))
    (fun os started H enc _ => lifted os started H enc)

theorem card : Rows.ClassesRiseCardSaid :=
  Claim7.holds_tied_plain_at .later [] [.data] true (true, "51bbcbb5ee79136e0bee52f96747fdab6c518be31be86edc7e1324dfa42c3b58") false over (fun _ h => by cases h) (by kernel_rfl) (fun _ h => by cases h) classesRise_row_tie rfl ⟨rfl, rfl⟩ (by kernel_rfl) rfl
    (fun f fn hf hfn => by
      obtain rfl : f = 5 := Option.some.inj ((show Tryd.prog.funcNamed "heddle/heddlelaw05.ClassesRise" = some 5 by kernel_rfl).symm.trans hf) |>.symm
      obtain rfl : fn = Tryd.f5 := (Option.some.inj (Tryd.func5.symm.trans hfn)).symm
      exact ⟨by kernel_rfl, fun j t ht => by
        rw [Tryd.params5] at ht
        have hm : t ∈ [3, 3] := by simpa using Array.mem_of_getElem? ht
        have hall : ([3, 3].all fun u => !Tryd.prog.wantsStandIn u) = true := by kernel_rfl
        exact (show Tryd.prog.wantsStandIn t = false by simpa using List.all_eq_true.1 hall t hm)⟩)
    (by kernel_rfl)

end Go.Proofs.YtmheeibkpgfeeaaDoor.classesRise

namespace Go.Proofs.YtmheeibkpgfeeaaDoor
theorem classesRise_holds : Rows.ClassesRiseCardSaid := classesRise.card
#print axioms classesRise_holds
end Go.Proofs.YtmheeibkpgfeeaaDoor
