/-
  A nil graph is refused: the function ColorNil answers true; it has no argument, and no condition.
-/
import Derived.Test.YtfgdoehiocgkhaaLive
import Derived.Test.YtfgdoehiocgkhaaOpen
namespace Go.Proofs.Ytfgdoehiocgkhaa.colorNil
open Go.ChangeShapes Go.WideShapes Go.ChangeAt Go.RowKit

theorem node_nil (x : Int) (w : World) : Calls Try.prog 24 #[.pointer none, .int .i64 x] w fun e w' => e = .returned (.tuple #[.int .i64 0, .int .i64 2]) ∧ w' = w := by
  go_enter Try.func24, Try.ntmps24
  go_wp2
  go_ret2
  exact ⟨rfl, rfl⟩
theorem slots_nil (x : Int) (w : World) : Calls Try.prog 25 #[.pointer none, .int .i64 x] w fun e w' => e = .returned (.tuple #[.slice none 0 0, .int .i64 2]) ∧ w' = w := by
  go_enter Try.func25, Try.ntmps25
  go_wp2_with (go_at_call 38; refine met (fault_nil _ _) ?_)
  go_ret2
  exact ⟨rfl, rfl⟩
theorem color_nil (x : Int) (w : World) : Calls Try.prog 27 #[.pointer none, .int .i64 x] w fun e w' => e = .returned (.tuple #[.int .i64 0, .int .i64 2]) ∧ w' = w := by
  go_enter Try.func27, Try.ntmps27
  go_wp2_with (go_at_call 38; refine met (fault_nil _ _) ?_)
  go_ret2
  exact ⟨rfl, rfl⟩
theorem work_nil (x : Int) (w : World) : Calls Try.prog 16 #[.pointer none, .int .i64 x] w fun e w' => e = .returned (.tuple #[.int .i64 0, .slice none 0 0]) ∧ w' = w := by
  go_enter Try.func16, Try.ntmps16
  go_wp2
  go_ret2
  exact ⟨rfl, rfl⟩
theorem set_nil (n j x : Int) (w : World) : Calls Try.prog 21 #[.pointer none, .int .i64 n, .int .i64 j, .int .i64 x] w fun e w' => e = .returned (.int .i64 2) ∧ w' = w := by
  go_enter Try.func21, Try.ntmps21
  go_wp2_with (go_at_call 38; refine met (fault_nil _ _) ?_)
  go_ret
  exact ⟨rfl, rfl⟩
theorem start_nil (v : Value) (w : World) : Calls Try.prog 14 #[.pointer none, v] w fun e w' => e = .returned (.int .i64 2) ∧ w' = w := by
  go_enter Try.func14, Try.ntmps14
  go_wp2
  go_ret
  exact ⟨rfl, rfl⟩
theorem shade_nil (n : Int) (w : World) : Calls Try.prog 22 #[.pointer none, .int .i64 n] w fun e w' => e = .returned (.int .i64 2) ∧ w' = w := by
  go_enter Try.func22, Try.ntmps22
  go_wp2_with (go_at_call 38; refine met (fault_nil _ _) ?_)
  go_ret
  exact ⟨rfl, rfl⟩
theorem phase_nil (w : World) : Calls Try.prog 11 #[.pointer none] w fun e w' => e = .returned (.int .i64 0) ∧ w' = w := by
  go_enter Try.func11, Try.ntmps11
  go_wp2
  go_ret
  exact ⟨rfl, rfl⟩
theorem cycles_nil (w : World) : Calls Try.prog 20 #[.pointer none] w fun e w' => e = .returned (.int .i64 0) ∧ w' = w := by
  go_enter Try.func20, Try.ntmps20
  go_wp2
  go_ret
  exact ⟨rfl, rfl⟩

set_option maxRecDepth 100000 in
set_option maxHeartbeats 2000000 in
theorem walk (w : World) : Calls Try.prog 6 #[] w (SayPost w (.bool true)) := by
  go_enter Try.func6, Try.ntmps6
  go_wp2_with (first | (go_at_call 24; refine met (node_nil _ _) ?_) | (go_at_call 25; refine met (slots_nil _ _) ?_) | (go_at_call 27; refine met (color_nil _ _) ?_) | (go_at_call 16; refine met (work_nil _ _) ?_))
  refine (told_nil w).mono ?_
  rintro e w1 ⟨v, rfl, hL1, _, hE1⟩
  obtain ⟨a, c, rfl, _⟩ := hL1.slice
  have HE1 := hid hE1
  clear hE1 hL1
  go_wp2_with (first | (go_at_call 21; refine met (set_nil _ _ _ _) ?_) | (go_at_call 14; refine met (start_nil _ _) ?_) | (go_at_call 22; refine met (shade_nil _ _) ?_))
  refine (awake_any w1).mono ?_
  rintro e w2 ⟨rfl, hE2⟩
  have HE2 := hid (HE1.out.trans hE2)
  clear hE2 HE1
  go_wp2_with (first | (go_at_call 11; refine met (phase_nil _) ?_) | (go_at_call 20; refine met (cycles_nil _) ?_))
  go_ret
  exact ⟨rfl, HE2.out⟩

set_option maxRecDepth 100000 in
theorem lifted (os : Go.Os) (started : os.Started) (H : Type) (enc : TypeId × Value → H) :
    ReturnsInHanded {} Try.checked os 6 .any (Rows.colorNilSpec.pre6 enc Try.prog Try.f6 Rows.colorNilRow.domain false) (Rows.colorNilSpec.post enc Try.prog Try.f6 false true false false) := by
  refine returnsInHanded_of_change (C := Try.checked) own started (by kernel_rfl) Try.func6
    (ChangeSpec.witness6 (enc := enc) (C := Try.checked) false ⟨#[], #[], []⟩ 8 (by kernel_rfl) (by kernel_rfl) (by kernel_rfl) (by kernel_rfl)) ?_
  intro W base args ds gs before hval0 hW hcnd _
  have hW' := hW
  obtain ⟨p, q, hA0, hV, rfl, hfz, hnd⟩ := hW
  have hA : DataW.TrodAll enc Try.prog W 0 (fun _ => true) true Try.f6.params.toList args.toList ds p := hA0
  rw [Try.params6] at hA
  obtain ⟨rfl, rfl, rfl⟩ := trodAll_none hA
  obtain ⟨rfl, rfl⟩ := trodVars_none hV
  clear hA0 hval0
  refine (walk W).mono fun e W' ⟨he, hg⟩ => ?_
  subst he
  exact ⟨_, rfl, _, _, _, [], [], [], hW', trodAll_mk1 (shut_bool Try.underlying4 _), trodAll_mk0, rfl, hg.below.frame _, fun h => by cases h⟩

theorem over : Rows.colorNilRow.holds Try.pinned (OpenSpec.ofChange Rows.colorNilSpec) :=
  OpenClaim.holds_of_wide 6 Try.f6 rfl rfl rfl rfl rfl rfl rfl ⟨rfl, rfl, rfl, rfl, rfl⟩ rfl rfl rfl rfl rfl (by kernel_rfl) Try.func6 (by kernel_rfl)
    (of_decide_eq_true (by kernel_rfl)) (by unfold Func.isWrapper; first | (rw [if_pos (by decide +kernel)]; kernel_rfl) | (rw [if_neg (by decide +kernel)]; exact ⟨rfl, rfl⟩))
    (fun os started H enc _ => lifted os started H enc)

end Go.Proofs.Ytfgdoehiocgkhaa.colorNil

namespace Go.Proofs.Ytfgdoehiocgkhaa
theorem colorNil_holds : Rows.ColorNilSaid := colorNil.over
#print axioms colorNil_holds
end Go.Proofs.Ytfgdoehiocgkhaa
