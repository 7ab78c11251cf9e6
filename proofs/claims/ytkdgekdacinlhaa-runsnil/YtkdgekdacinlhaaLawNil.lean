/-
  Nil pages are refused: the function RunsNil answers true, for its one (empty) input and in whatever memory; no condition.
-/
import Derived.Test.YtkdgekdacinlhaaTold
import Derived.OpenShut
import Derived.ShutString
import Derived.ChangeOld
namespace Go.Proofs.Ytkdgekdacinlhaa
open Go.RowKit

theorem alloc_nil (n : Int) (w : World) : Calls Try.prog 19 #[.pointer none, .int .i64 n] w fun e w' => e = .returned (.tuple #[.int .i64 0, .int .i64 2]) ∧ w' = w := by
  go_enter Try.func19, Try.ntmps19
  go_wp2
  go_ret2
  exact ⟨rfl, rfl⟩

theorem free_nil (n : Int) (w : World) : Calls Try.prog 20 #[.pointer none, .int .i64 n] w fun e w' => e = .returned (.tuple #[.int .i64 0, .int .i64 2]) ∧ w' = w := by
  go_enter Try.func20, Try.ntmps20
  go_wp2
  go_ret2
  exact ⟨rfl, rfl⟩

end Go.Proofs.Ytkdgekdacinlhaa

namespace Go.Proofs.Ytkdgekdacinlhaa.runsNil
open Go.ChangeShapes Go.WideShapes Go.ChangeAt Go.RowKit

theorem own : ownKnob Try.prog.godebug = none := by kernel_rfl

set_option maxRecDepth 100000 in
set_option maxHeartbeats 2000000 in
theorem walk (w : World) : Calls Try.prog 6 #[] w (SayPost w (.bool true)) := by
  go_enter Try.func6, Try.ntmps6
  go_wp2_with (first
    | (go_at_call 19; refine met (alloc_nil _ _) ?_)
    | (go_at_call 20; refine met (free_nil _ _) ?_))
  refine (owner_nil 0 w).mono ?_
  rintro e w1 ⟨rfl, hE1⟩
  have HE1 := hid (hE1.trans (Ext.alloc [] _ (.cells #[.int .i64 0, .int .i64 0, .bool false] 42)))
  clear hE1
  simp only [ownR, ownE, List.find?_nil, Option.getD_none, Option.isSome_none, Rn.val, Int.natCast_zero, Bool.false_eq_true, if_false]
  go_wp2_with fail
  refine (told_nil _).mono ?_
  rintro e w2 ⟨v, rfl, hL2, _, hE2⟩
  obtain ⟨a, c, rfl, _⟩ := hL2.slice
  have HE2 := hid (HE1.out.trans hE2)
  clear hE2 hL2
  go_wp2_with fail
  refine (awake_any _).mono ?_
  rintro e w3 ⟨rfl, hE3⟩
  have HE3 := hid (HE2.out.trans hE3)
  clear hE3
  go_wp2_with fail
  refine (largest_nil _).mono ?_
  rintro e w4 ⟨rfl, hE4⟩
  have HE4 := hid (HE3.out.trans hE4)
  clear hE4
  go_wp2
  go_ret
  exact ⟨rfl, HE4.out⟩

set_option maxRecDepth 100000 in
theorem lifted (os : Os) (started : os.Started) (H : Type) (enc : TypeId × Value → H) :
    ReturnsInHanded {} Try.checked os 6 .any (Rows.runsNilSpec.pre6 enc Try.prog Try.f6 Rows.runsNilRow.domain false) (Rows.runsNilSpec.post enc Try.prog Try.f6 false true false false) := by
  refine returnsInHanded_of_change (C := Try.checked) own started (by kernel_rfl) Try.func6
    (ChangeSpec.witness6 (enc := enc) (C := Try.checked) false ⟨#[], #[], []⟩ 8 (by kernel_rfl) (by kernel_rfl) (by kernel_rfl) (by kernel_rfl)) ?_
  intro W base args ds gs before hval0 hW hcnd _
  have hW' := hW
  obtain ⟨p, q, hA0, hV, rfl, hfz, hnd⟩ := hW
  have hA : DataW.TrodAll enc Try.prog W 0 (fun _ => true) true Try.f6.params.toList args.toList ds p := hA0
  rw [Try.params6] at hA
  obtain ⟨rfl, rfl, rfl⟩ := trodAll_none hA
  obtain ⟨rfl, rfl⟩ := trodVars_none hV
  clear hA0 hval0
  refine (walk W).mono fun e W' ⟨he, hg⟩ => ?_
  subst he
  exact ⟨_, rfl, _, _, _, [], [], [], hW', trodAll_mk1 (shut_bool Try.underlying4 _), trodAll_mk0, rfl, hg.below.frame _, fun h => by cases h⟩

theorem over : Rows.runsNilRow.holds Try.pinned (OpenSpec.ofChange Rows.runsNilSpec) :=
  OpenClaim.holds_of_wide 6 Try.f6 rfl rfl rfl rfl rfl rfl rfl ⟨rfl, rfl, rfl, rfl, rfl⟩ rfl rfl rfl rfl rfl (by kernel_rfl) Try.func6 (by kernel_rfl)
    (of_decide_eq_true (by kernel_rfl)) (by unfold Func.isWrapper; first | (rw [if_pos (by decide +kernel)]; kernel_rfl) | (rw [if_neg (by decide +kernel)]; exact ⟨rfl, rfl⟩))
    (fun os started H enc _ => lifted os started H enc)

end Go.Proofs.Ytkdgekdacinlhaa.runsNil

namespace Go.Proofs.Ytkdgekdacinlhaa
theorem runsNil_holds : Rows.RunsNilSaid := runsNil.over
#print axioms runsNil_holds
end Go.Proofs.Ytkdgekdacinlhaa
