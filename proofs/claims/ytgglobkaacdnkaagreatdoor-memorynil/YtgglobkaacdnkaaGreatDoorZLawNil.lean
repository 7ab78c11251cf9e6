/-
  A nil memory is refused by every call, has done no work, fits nothing and holds nothing: the function MemoryNil answers true; the program's table of sizes is what its text lays.
-/
import Derived.Test.YtgglobkaacdnkaaGreatDoorZME
import Derived.Test.YtgglobkaacdnkaaGreatDoorZO
import Derived.Test.YtgglobkaacdnkaaGreatDoorCards
import Derived.Test.YtgglobkaacdnkaaGreatDoorTie
/-
  The walk through MemoryNil; no statement is proved here.
-/
namespace Go.Proofs.YtgglobkaacdnkaaGreatDoor
open Go.RowKit

set_option maxRecDepth 100000 in
set_option maxHeartbeats 4000000 in
theorem nilWalk (w : World) (hG : Gl w) : Calls Tryz.prog 3 #[] w (SayPost w (.bool true)) := by
  have HG := hid hG
  have HE0 : Hid (Ext [] w (w.alloc (.cells #[.bool false] 4))) := Ext.alloc _ _ _
  clear hG
  go_enter Tryz.func3, Tryz.ntmps3
  go_wp2_with fail
  refine (alloc_nil _ _ _ ⟨_, _, _, rfl⟩ ⟨_, rfl⟩ _).mono ?_
  rintro e w1 ⟨rfl, rfl⟩
  go_wp2_with fail
  refine (get_nil 256 0 _).mono ?_
  rintro e w2 ⟨rfl, hE⟩
  have HE2 := hid (HE0.out.trans hE)
  clear hE HE0
  go_wp2_with fail
  refine (ptrs_nil 256 w2).mono ?_
  rintro e w3 ⟨rfl, hE⟩
  have HE3 := hid (HE2.out.trans hE)
  clear hE HE2
  go_wp2_with fail
  refine (minfo_nil 256 w3).mono ?_
  rintro e w4 ⟨rfl, hE⟩
  have HE4 := hid (HE3.out.trans hE)
  clear hE HE3
  unfold obV
  go_wp2_with fail
  obtain ⟨w5, hw5⟩ : ∃ w5, w5 = w4.alloc (.cells #[.int .i64 0, .int .i64 0, .int .i64 0, .slice none 0 0] 34) := ⟨_, rfl⟩
  have HE5 : Hid (Ext [] w w5) := by rw [hw5]; exact HE4.out.trans (Ext.alloc _ _ _)
  rw [← hw5]
  clear hw5 HE4
  refine (view_nil w5).mono ?_
  rintro e w6 ⟨rfl, hE⟩
  have HE6 := hid (HE5.out.trans hE)
  clear hE HE5
  go_wp2_with fail
  obtain ⟨w7, hw7⟩ : ∃ w7, w7 = w6.alloc (.cells #[.slice none 0 0, .slice none 0 0, .slice none 0 0, .int .i64 0, .int .i64 0] 40) := ⟨_, rfl⟩
  have HE7 : Hid (Ext [] w w7) := by rw [hw7]; exact HE6.out.trans (Ext.alloc _ _ _)
  have HC7 : Hid (w7.heap[w6.heap.size]? = some (.cells #[.slice none 0 0, .slice none 0 0, .slice none 0 0, .int .i64 0, .int .i64 0] 40 (0, 0))) := by rw [hw7]; exact heap_alloc_new _ _
  rw [← hw7]
  clear hw7 HE6
  refine (set_nil 256 0 1 w7).mono ?_
  rintro e w8 ⟨rfl, hE⟩
  have HE8 := hid (HE7.out.trans hE)
  have HC8 := hid (hE.keep HC7.out (by simp))
  clear hE HE7 HC7
  go_wp2_with fail
  refine (begin_nil _ w8).mono ?_
  rintro e w9 ⟨rfl, rfl⟩
  go_wp2_with fail
  refine (collect_nil _ w9).mono ?_
  rintro e w10 ⟨rfl, rfl⟩
  go_wp2_with fail
  refine (mawake_any w10 (HG.out.keep0 HE8.out)).mono ?_
  rintro e w11 ⟨rfl, hE⟩
  have HE11 := hid (HE8.out.trans hE)
  have HC11 := hid (hE.keep HC8.out (by simp))
  clear hE HE8 HC8
  have c0 : w11.cell? ⟨w6.heap.size, 0, none⟩ = some (.slice none 0 0) := by rw [cell_of_row _ _ _ _ _ _ HC11.out]; rfl
  clear HC11
  go_wp2_with fail
  refine (work_nil 5 w11).mono ?_
  rintro e w12 ⟨rfl, rfl⟩
  go_wp2_with fail
  refine (phase_nil w12).mono ?_
  rintro e w13 ⟨rfl, rfl⟩
  go_wp2_with fail
  refine (cycles_nil w13).mono ?_
  rintro e w14 ⟨rfl, rfl⟩
  go_wp2_with fail
  refine (fits_nil 1 w14).mono ?_
  rintro e w15 ⟨rfl, rfl⟩
  go_wp2_with fail
  go_ret
  exact ⟨rfl, HE11.out⟩

end Go.Proofs.YtgglobkaacdnkaaGreatDoor

namespace Go.Proofs.YtgglobkaacdnkaaGreatDoor.memoryNil
open Go.ChangeShapes Go.WideShapes Go.ChangeAt Go.RowKit

set_option maxRecDepth 100000 in
theorem lifted (os : Go.Os) (started : os.Started) (H : Type) (enc : TypeId × Value → H) :
    ReturnsInHanded {} Tryz.checked os 3 .any (fun w args => (Rows.memoryNilSpec.pre enc Tryz.prog Tryz.f3 [] false w args ∧ laidMetH Tryz.prog [("heddle/classes.slots", Rows.laid_heddle_classes_slots)] w) ∧ sizedMet enc Tryz.prog Tryz.f3 (OpenSpec.ofChange Rows.memoryNilSpec) false w args)
      (Rows.memoryNilSpec.post enc Tryz.prog Tryz.f3 false true false false) := by
  refine returnsInHanded_of_change_and (C := Tryz.checked) (X := fun w _ => laidMetH Tryz.prog [("heddle/classes.slots", Rows.laid_heddle_classes_slots)] w) (fun _ _ _ hh h => h.of_heap hh) own started (by kernel_rfl) Tryz.func3
    (ChangeSpec.witness_shaped (enc := enc) (C := Tryz.checked) (os := os) (X := fun w _ => laidMetH Tryz.prog [("heddle/classes.slots", Rows.laid_heddle_classes_slots)] w) false (World.laidAll Tryz.prog os [("heddle/classes.slots", Rows.laid_heddle_classes_slots)]) #[] 8 (World.laidAll_os _ _ _)
      (World.shaped_of_ZipB (by kernel_rfl) (by kernel_rfl)) (by kernel_rfl) (by kernel_rfl) (by kernel_rfl)
      (by rw [MakeChecks.laidMetH_plain _ _ _ (by kernel_rfl)]; exact laidMet_laidAll _ (by kernel_rfl) (by kernel_rfl))) ?_
  intro W base args ds gs before hval0 hW _ hsz0 hL _
  have hval : ∀ (j : Nat) t v, Tryz.f3.params[j]? = some t → args[j]? = some v → Value.okWide Tryz.prog W .any base t v := hval0
  have hW' := hW
  obtain ⟨p, q, hA0, hV, rfl, hfz, hnd⟩ := hW
  have hA : DataW.TrodAll enc Tryz.prog W 0 (fun _ => true) true Tryz.f3.params.toList args.toList ds p := hA0
  rw [Tryz.params3] at hA hval
  obtain ⟨hargs, rfl, rfl⟩ := trodAll_nil hA
  obtain rfl : args = #[] := by cases args; simp_all
  obtain ⟨rfl, rfl⟩ := trodVars_none hV
  clear hA0 hval0
  refine (nilWalk W (gl_of hL)).mono fun e W' ⟨he, hext⟩ => ?_
  subst he
  have bel := hext.below
  exact ⟨_, rfl, _, _, _, [], _, [], hW', trodAll_mk1 (shut_bool Tryz.underlying4 _), trodAll_mk0, rfl, bel.frame _, fun h => by cases h⟩

theorem over : Rows.memoryNilRow.holds Tryz.pinned (OpenSpec.ofChange Rows.memoryNilSpec) :=
  OpenClaim.holds_of_wide 3 Tryz.f3 rfl rfl rfl rfl rfl rfl rfl ⟨rfl, rfl, rfl, rfl, rfl⟩ rfl rfl rfl rfl rfl (by kernel_rfl) Tryz.func3 (by kernel_rfl)
    (of_decide_eq_true (by kernel_rfl)) (by unfold Func.isWrapper; first | (rw [if_pos (by decide +kernel)]; kernel_rfl) | (rw [if_neg (by decide +kernel)]; exact ⟨rfl, rfl⟩))
    (fun os started H enc _ => lifted os started H enc)

theorem card : Rows.MemoryNilCardSaid :=
  Claim7.holds_tied_plain_at .later [] [.data] true (true, "8a1297ce5c09f08ca0307cee4e9cdba2a9392fac5c9d0d4c142f6cef68ab8c06") false over (fun _ h => by cases h) (by kernel_rfl) (fun _ h => by cases h) memoryNil_row_tie rfl ⟨rfl, rfl⟩ (by kernel_rfl) rfl
    (fun f fn hf hfn => by
      obtain rfl : f = 3 := Option.some.inj ((show Tryz.prog.funcNamed "heddle/heddlelaw09.MemoryNil" = some 3 by kernel_rfl).symm.trans hf) |>.symm
      obtain rfl : fn = Tryz.f3 := (Option.some.inj (Tryz.func3.symm.trans hfn)).symm
      exact ⟨by kernel_rfl, fun j t ht => by
        rw [Tryz.params3] at ht
        have hm : t ∈ ([] : List TypeId) := by simpa using Array.mem_of_getElem? ht
        have hall : (([] : List TypeId).all fun u => !Tryz.prog.wantsStandIn u) = true := by kernel_rfl
        exact (show Tryz.prog.wantsStandIn t = false by simpa using List.all_eq_true.1 hall t hm)⟩)
    (by kernel_rfl)

end Go.Proofs.YtgglobkaacdnkaaGreatDoor.memoryNil

namespace Go.Proofs.YtgglobkaacdnkaaGreatDoor
theorem memoryNil_holds : Rows.MemoryNilCardSaid := memoryNil.card
#print axioms memoryNil_holds
end Go.Proofs.YtgglobkaacdnkaaGreatDoor
