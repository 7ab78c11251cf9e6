/-
  The room holds the size and wastes less than the next smaller class or one page, and a class's slots fit into a page: the function ClassesLeast answers true and leaves its argument as it was, for every number; the condition is what the program's own table of sizes holds when the call begins.
-/
import Derived.Test.YtmheeibkpgfeeaaDoorOpen
import Derived.Test.YtmheeibkpgfeeaaDoorCards
import Derived.Test.YtmheeibkpgfeeaaDoorTie
namespace Go.Proofs.YtmheeibkpgfeeaaDoor
open Go.RowKit

theorem pe_cases (s : Int) : (pgE s = 0 ∧ Ok s) ∨ (pgE s = 2 ∧ (s < 1 ∨ 65536 < s)) := by
  by_cases h : Ok s
  · exact .inl ⟨by rw [pgE, if_pos h], h⟩
  · exact .inr ⟨by rw [pgE, if_neg h], by simp only [Ok] at h; omega⟩

set_option maxRecDepth 100000 in
set_option maxHeartbeats 4000000 in
theorem least_bad (s : Int) (w : World) (hG : Gl w) (h : s < 1 ∨ 65536 < s) (he : pgE s = 2) : Calls Tryd.prog 4 #[.int .i64 s] w (SayPost w (.bool true)) := by
  have K0 := awake_any w hG
  have K1 := room_any s w hG
  rw [he] at K1
  clear hG he
  generalize rmV s = x at *
  rcases (by omega : s < 1 ∨ (¬ s < 1 ∧ 65536 < s)) with h1 | ⟨h1, h2⟩
  all_goals
    clear h
    go_enter Tryd.func4, Tryd.ntmps4
    go_wp2_with (first | (go_at_call 6; refine met K0 ?_) | (go_at_call 11; refine met K1 ?_))
    go_ret
    exact ⟨rfl, Ext.refl _ _⟩

set_option maxRecDepth 100000 in
set_option maxHeartbeats 4000000 in
theorem least_large (s : Int) (w : World) (hG : Gl w) (h : Ok s) (h1 : ¬ s ≤ 128) : Calls Tryd.prog 4 #[.int .i64 s] w (SayPost w (.bool true)) := by
  have K0 := awake_any w hG
  have K1 := room_any s w hG
  have K2 := pages_any s w
  have K3 := class_any s w hG
  rw [show pgE s = 0 by rw [pgE, if_pos h]] at K1 K2
  rw [show rmV s = (s + 255) / 256 * 256 by rw [rmV, if_pos h, if_neg h1]] at K1
  rw [show pgV s = (s + 255) / 256 by rw [pgV, if_pos h]] at K2
  rw [show clsV s = 0 by rw [clsV, if_neg (by simp [h1])], show clsE s = 6 by rw [clsE, if_pos h, if_neg h1]] at K3
  clear hG
  obtain ⟨g1, g2⟩ := h
  obtain ⟨p, hp⟩ : ∃ p, p = (s + 255) / 256 := ⟨_, rfl⟩
  rw [← hp] at K1 K2
  have e1 : IntKind.wrap .i64 (p * 256) = p * 256 := by rw [IntKind.wrap_i64]; omega
  have e2 : IntKind.wrap .i64 (p - 1) = p - 1 := by rw [IntKind.wrap_i64]; omega
  have e3 : IntKind.wrap .i64 ((p - 1) * 256) = (p - 1) * 256 := by rw [IntKind.wrap_i64]; omega
  have f1 : ¬ p * 256 < s := by omega
  have f2 : ¬ s ≤ (p - 1) * 256 := by omega
  have f3 : 128 < s := by omega
  clear hp h1
  go_enter Tryd.func4, Tryd.ntmps4
  go_wp2_with (first | (go_at_call 6; refine met K0 ?_) | (go_at_call 11; refine met K1 ?_) | (go_at_call 9; refine met K2 ?_) | (go_at_call 7; refine met K3 ?_))
  go_ret
  exact ⟨rfl, Ext.refl _ _⟩

theorem cls_spec {s : Int} (h1 : 1 ≤ s) (h : s ≤ 128) : s ≤ sz (clsN s) ∧ (clsN s = 0 ∨ sz (clsN s - 1) < s) := by
  unfold clsN
  repeat' split
  all_goals (simp [sz]; try omega)

set_option maxRecDepth 100000 in
set_option maxHeartbeats 4000000 in
theorem least_core (s c z n : Int) (f g : Int → Int) (w : World)
    (K0 : Calls Tryd.prog 6 #[] w fun e w' => e = .returned (.bool true) ∧ w' = w)
    (K1 : Calls Tryd.prog 11 #[.int .i64 s] w fun e w' => e = .returned (.tuple #[.int .i64 z, .int .i64 0]) ∧ w' = w)
    (K2 : Calls Tryd.prog 9 #[.int .i64 s] w fun e w' => e = .returned (.tuple #[.int .i64 1, .int .i64 0]) ∧ w' = w)
    (K3 : Calls Tryd.prog 7 #[.int .i64 s] w fun e w' => e = .returned (.tuple #[.int .i64 c, .int .i64 0]) ∧ w' = w)
    (K4 : ∀ x, Calls Tryd.prog 13 #[.int .i64 x] w fun e w' => e = .returned (.tuple #[.int .i64 (f x), .int .i64 (g x)]) ∧ w' = w)
    (K5 : Calls Tryd.prog 15 #[.int .i64 c] w fun e w' => e = .returned (.tuple #[.int .i64 n, .int .i64 0]) ∧ w' = w)
    (f1 : ¬ z < s) (f3 : ¬ 256 < s) (f4 : ¬ s ≤ 0) (hf : f c = z) (hg : g c = 0)
    (e1 : IntKind.wrap .i64 (n * z) = n * z) (e2 : ¬ 256 < n * z) (e3 : IntKind.wrap .i64 (n + 1) = n + 1) (e4 : IntKind.wrap .i64 ((n + 1) * z) = (n + 1) * z) (e5 : ¬ (n + 1) * z ≤ 256) (e6 : Int.tmod z 8 = 0)
    (e7 : IntKind.wrap .i64 (c - 1) = c - 1) (hc : (c == 0) = true ∨ ((c == 0) = false ∧ f (c - 1) < s ∧ g (c - 1) = 0)) : Calls Tryd.prog 4 #[.int .i64 s] w (SayPost w (.bool true)) := by
  have f5 : ¬ 256 < s := f3
  rcases hc with h0 | ⟨h0, h1, h2⟩
  all_goals
    go_enter Tryd.func4, Tryd.ntmps4
    go_wp2_with (first | (go_at_call 6; refine met K0 ?_) | (go_at_call 11; refine met K1 ?_) | (go_at_call 9; refine met K2 ?_) | (go_at_call 7; refine met K3 ?_) | (go_at_call 13; refine met (K4 _) ?_) | (go_at_call 15; refine met K5 ?_))
    go_ret
    exact ⟨rfl, Ext.refl _ _⟩

theorem least_small (s : Int) (w : World) (hG : Gl w) (h : Ok s) (h1 : s ≤ 128) : Calls Tryd.prog 4 #[.int .i64 s] w (SayPost w (.bool true)) := by
  have K0 := awake_any w hG
  have K1 := room_any s w hG
  have K2 := pages_any s w
  have K3 := class_any s w hG
  have K4 := fun c => slot_any c w hG
  have hl := clsN_lt s
  have K5 := slots_any (clsN s) w hG
  rw [slE_at hl] at K5
  rw [show pgE s = 0 by rw [pgE, if_pos h]] at K1 K2
  rw [show rmV s = sz (clsN s) by rw [rmV, if_pos h, if_pos h1]] at K1
  rw [show pgV s = 1 by rw [pgV, if_pos h]; obtain ⟨_, _⟩ := h; omega] at K2
  rw [show clsV s = clsN s by rw [clsV, if_pos ⟨h, h1⟩], show clsE s = 0 by rw [clsE, if_pos h, if_pos h1]] at K3
  obtain ⟨g1, g2⟩ := h
  obtain ⟨f1, f2⟩ := cls_spec g1 h1
  generalize clsN s = m at *
  refine least_core s m (sz m) (snV m) slV slE w K0 K1 K2 K3 K4 K5 (by omega) (by omega) (by omega) (slV_at hl) (slE_at hl) ?_ ?_ ?_ ?_ ?_ ?_ ?_ ?_
  all_goals clear K0 K1 K2 K3 K4 K5 hG g1 g2 h1
  case _ | _ | _ | _ | _ | _ | _ => rcases k8 hl with rfl | rfl | rfl | rfl | rfl | rfl | rfl | rfl <;> decide
  rcases k8 hl with rfl | rfl | rfl | rfl | rfl | rfl | rfl | rfl
  · exact .inl rfl
  all_goals exact .inr ⟨rfl, f2.resolve_left (by decide), rfl⟩

theorem classesLeastWalk (s : Int) (w : World) (hG : Gl w) : Calls Tryd.prog 4 #[.int .i64 s] w (SayPost w (.bool true)) := by
  rcases pe_cases s with ⟨_, h⟩ | ⟨he, h⟩
  · by_cases h1 : s ≤ 128
    · exact least_small s w hG h h1
    · exact least_large s w hG h h1
  · exact least_bad s w hG h he

end Go.Proofs.YtmheeibkpgfeeaaDoor

namespace Go.Proofs.YtmheeibkpgfeeaaDoor.classesLeast
open Go.ChangeShapes Go.WideShapes Go.ChangeAt Go.RowKit

set_option maxRecDepth 100000 in
theorem lifted (os : Go.Os) (started : os.Started) (H : Type) (enc : TypeId × Value → H) :
    ReturnsInHanded {} Tryd.checked os 4 .any (fun w args => (Rows.classesLeastSpec.pre enc Tryd.prog Tryd.f4 [] false w args ∧ laidMetH Tryd.prog [("heddle/classes.slots", Rows.laid_heddle_classes_slots)] w) ∧ sizedMet enc Tryd.prog Tryd.f4 (OpenSpec.ofChange Rows.classesLeastSpec) false w args)
      (Rows.classesLeastSpec.post enc Tryd.prog Tryd.f4 false true false false) := by
  refine returnsInHanded_of_change_and (C := Tryd.checked) (X := fun w _ => laidMetH Tryd.prog [("heddle/classes.slots", Rows.laid_heddle_classes_slots)] w) (fun _ _ _ hh h => h.of_heap hh) own started (by kernel_rfl) Tryd.func4
    (ChangeSpec.witness_shaped (enc := enc) (C := Tryd.checked) (os := os) (X := fun w _ => laidMetH Tryd.prog [("heddle/classes.slots", Rows.laid_heddle_classes_slots)] w) false (World.laidAll Tryd.prog os [("heddle/classes.slots", Rows.laid_heddle_classes_slots)]) #[.int .i64 0] 8 (World.laidAll_os _ _ _)
      (World.shaped_of_ZipB (by kernel_rfl) (by kernel_rfl)) (by kernel_rfl) (by kernel_rfl) (by kernel_rfl)
      (by rw [MakeChecks.laidMetH_plain _ _ _ (by kernel_rfl)]; exact laidMet_laidAll _ (by kernel_rfl) (by kernel_rfl))) ?_
  intro W base args ds gs before hval0 hW _ hsz0 hL _
  have hval : ∀ (j : Nat) t v, Tryd.f4.params[j]? = some t → args[j]? = some v → Value.okWide Tryd.prog W .any base t v := hval0
  have hW' := hW
  obtain ⟨p, q, hA0, hV, rfl, hfz, hnd⟩ := hW
  have hA : DataW.TrodAll enc Tryd.prog W 0 (fun _ => true) true Tryd.f4.params.toList args.toList ds p := hA0
  rw [Tryd.params4] at hA hval
  obtain ⟨v0, vs0, d0, ds0, p0, q0, hargs, rfl, rfl, h0, r0⟩ := trodAll_cons hA
  obtain ⟨rfl, rfl, rfl⟩ := trodAll_nil r0
  obtain rfl : args = #[v0] := by cases args; simp_all
  obtain ⟨rfl, rfl⟩ := trodVars_none hV
  obtain ⟨a0, rfl, rfl, rfl, w0⟩ := open_int Tryd.underlying3 (hval 0 3 v0 rfl rfl) h0
  clear hA0 hval0
  refine (classesLeastWalk a0 W (gl_of hL)).mono fun e W' ⟨he, hext⟩ => ?_
  subst he
  have bel := hext.below
  exact ⟨_, rfl, _, _, _, [], _, [], hW', trodAll_mk1 (shut_bool Tryd.underlying4 _), (trodAll_cons_mk (shut_int Tryd.underlying3 w0) trodAll_mk0), rfl, bel.frame _, fun h => by cases h⟩

theorem over : Rows.classesLeastRow.holds Tryd.pinned (OpenSpec.ofChange Rows.classesLeastSpec) :=
  OpenClaim.holds_of_wide 4 Tryd.f4 rfl rfl rfl rfl rfl rfl rfl ⟨rfl, rfl, rfl, rfl, rfl⟩ rfl rfl rfl rfl rfl (by kernel_rfl) Tryd.func4 (by kernel_rfl)
    (of_decide_eq_true (by kernel_rfl)) (by unfold Func.isWrapper; first | (rw [if_pos (by decide +kernel)]; kernel_rfl) | (rw [if_neg (by decide +kernel)]; exact ⟨rfl, rfl⟩))
    (fun os started H enc _ => lifted os started H enc)

theorem card : Rows.ClassesLeastCardSaid :=
  Claim7.holds_tied_plain_at .later [] [.data] true (true, "51bbcbb5ee79136e0bee52f96747fdab6c518be31be86edc7e1324dfa42c3b58") false over (fun _ h => by cases h) (by kernel_rfl) (fun _ h => by cases h) classesLeast_row_tie rfl ⟨rfl, rfl⟩ (by kernel_rfl) rfl
    (fun f fn hf hfn => by
      obtain rfl : f = 4 := Option.some.inj ((show Tryd.prog.funcNamed "heddle/heddlelaw05.ClassesLeast" = some 4 by kernel_rfl).symm.trans hf) |>.symm
      obtain rfl : fn = Tryd.f4 := (Option.some.inj (Tryd.func4.symm.trans hfn)).symm
      exact ⟨by kernel_rfl, fun j t ht => by
        rw [Tryd.params4] at ht
        have hm : t ∈ [3] := by simpa using Array.mem_of_getElem? ht
        have hall : ([3].all fun u => !Tryd.prog.wantsStandIn u) = true := by kernel_rfl
        exact (show Tryd.prog.wantsStandIn t = false by simpa using List.all_eq_true.1 hall t hm)⟩)
    (by kernel_rfl)

end Go.Proofs.YtmheeibkpgfeeaaDoor.classesLeast

namespace Go.Proofs.YtmheeibkpgfeeaaDoor
theorem classesLeast_holds : Rows.ClassesLeastCardSaid := classesLeast.card
#print axioms classesLeast_holds
end Go.Proofs.YtmheeibkpgfeeaaDoor
