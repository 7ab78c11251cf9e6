/-
  A nil memory is refused: of whatever table, type, value, Save, Load, Make, Fetch and Keep of a nil memory answer one error: that of the table if it is not sound, else that of the argument. The two package variables are as the program's text lays them.
-/
import Derived.Test.YtbpjmcjjambdkaaGreatDoorZAF
import Derived.Test.YtbpjmcjjambdkaaGreatDoorZBC
import Derived.Test.YtbpjmcjjambdkaaGreatDoorZBD
import Derived.Test.YtbpjmcjjambdkaaGreatDoorCards
import Derived.Test.YtbpjmcjjambdkaaGreatDoorTie
namespace Go.Proofs.YtbpjmcjjambdkaaGreatDoor.layoutNil
open Go.ChangeShapes Go.WideShapes Go.ChangeAt Go.RowKit Ty

set_option maxRecDepth 100000 in
theorem lifted (os : Go.Os) (started : os.Started) (H : Type) (enc : TypeId × Value → H) :
    ReturnsInHanded {} Tryz.checked os 8 .any (fun w args => (Rows.layoutNilSpec.pre enc Tryz.prog Tryz.f8 [] false w args ∧ laidMetH Tryz.prog [("heddle/classes.slots", Rows.laid_heddle_classes_slots), ("heddle/types.partsOf", Rows.laid_heddle_types_partsOf)] w) ∧ sizedMet enc Tryz.prog Tryz.f8 (OpenSpec.ofChange Rows.layoutNilSpec) false w args)
      (Rows.layoutNilSpec.post enc Tryz.prog Tryz.f8 false true false false) := by
  refine returnsInHanded_of_change_and (C := Tryz.checked) (X := fun w _ => laidMetH Tryz.prog [("heddle/classes.slots", Rows.laid_heddle_classes_slots), ("heddle/types.partsOf", Rows.laid_heddle_types_partsOf)] w) (fun _ _ _ hh h => h.of_heap hh) own started (by kernel_rfl) Tryz.func8
    (ChangeSpec.witness_shaped (enc := enc) (C := Tryz.checked) (os := os) (X := fun w _ => laidMetH Tryz.prog [("heddle/classes.slots", Rows.laid_heddle_classes_slots), ("heddle/types.partsOf", Rows.laid_heddle_types_partsOf)] w) false (World.laidAll Tryz.prog os [("heddle/classes.slots", Rows.laid_heddle_classes_slots), ("heddle/types.partsOf", Rows.laid_heddle_types_partsOf)]) #[.agg #[.slice none 0 0, .int .i64 0, .slice none 0 0]] 8 (World.laidAll_os _ _ _)
      (World.shaped_of_ZipB (by kernel_rfl) (by kernel_rfl)) (by kernel_rfl) (by kernel_rfl) (by kernel_rfl)
      (by rw [MakeChecks.laidMetH_plain _ _ _ (by kernel_rfl)]; exact laidMet_laidAll _ (by kernel_rfl) (by kernel_rfl))) ?_
  intro W base args ds gs before hval0 hW _ hsz0 hL _
  have hval : ∀ (j : Nat) t v, Tryz.f8.params[j]? = some t → args[j]? = some v → Value.okWide Tryz.prog W .any base t v := hval0
  have hW' := hW
  obtain ⟨p, q, hA0, hV, rfl, hfz, hnd⟩ := hW
  have hA : DataW.TrodAll enc Tryz.prog W 0 (fun _ => true) true Tryz.f8.params.toList args.toList ds p := hA0
  rw [Tryz.params8] at hA hval
  obtain ⟨v0, vs0, d0, ds0, p0, q0, hargs, rfl, rfl, h0, r0⟩ := trodAll_cons hA
  obtain ⟨rfl, rfl, rfl⟩ := trodAll_nil r0
  obtain rfl : args = #[v0] := by cases args; simp_all
  obtain ⟨rfl, rfl⟩ := trodVars_none hV
  have k0 := h0
  have lt0 : ∀ x ∈ p0, x.block < W.heap.size := by obtain ⟨m, hm⟩ := k0; exact DataW.trod_lt m _ _ _ hm
  have hsz : (DataW.weightsEach Tryz.prog [28] [d0]).all (· ≤ reachBytes) = true := hsz0
  have hw0 : ∀ y ∈ d0.weights Tryz.prog 28, y ≤ 140737488351232 := by
    intro y hy
    have := List.all_eq_true.1 hsz y (DataW.weights_mem_each (j := 0) (t := 28) rfl rfl y hy)
    have h2 := of_decide_eq_true this
    simpa [reachBytes] using h2
  obtain ⟨ta0, tn0, tc0, tt0, va0, vn0, vc0, ts0, dv0, l0, rfl, hT0, htn0, htc0, hCC0, hn0, hnc0⟩ := open_value (hval 0 28 v0 rfl rfl) h0 hw0
  subst hn0
  have hC0 := hCC0.mono (show dv0 ≤ dv0 by omega)
  clear hA0 hval0
  refine (nilWalk ts0 ta0 tn0 tc0 htn0 (dv0) tt0 va0 l0 vc0 W hC0 hT0 (Ty.gl_of hL) (fun u hu => (awake1 u ((gl_of hL).keep0 (ext_of hu)) ((Ty.gl_of hL).keep0 hu)).mono (fun e w h => ⟨h.1, ext_to h.2⟩))).mono fun e W' ⟨he, hext⟩ => ?_
  subst he
  have bel := hext.below
  exact ⟨_, rfl, _, _, _, [], _, [], hW', trodAll_mk1 (shut_bool Tryz.underlying4 _), (trodAll_cons_mk (Below.trod laidOut (by kernel_rfl) (of_decide_eq_true (by kernel_rfl)) k0 bel lt0) trodAll_mk0), rfl, bel.frame _, fun h => by cases h⟩

theorem over : Rows.layoutNilRow.holds Tryz.pinned (OpenSpec.ofChange Rows.layoutNilSpec) :=
  OpenClaim.holds_of_wide 8 Tryz.f8 rfl rfl rfl rfl rfl rfl rfl ⟨rfl, rfl, rfl, rfl, rfl⟩ rfl rfl rfl rfl rfl (by kernel_rfl) Tryz.func8 (by kernel_rfl)
    (of_decide_eq_true (by kernel_rfl)) (by unfold Func.isWrapper; first | (rw [if_pos (by decide +kernel)]; kernel_rfl) | (rw [if_neg (by decide +kernel)]; exact ⟨rfl, rfl⟩))
    (fun os started H enc _ => lifted os started H enc)

theorem card : Rows.LayoutNilCardSaid :=
  Claim7.holds_tied_plain_at .later [] [.data, .data] true (true, "837159baaabfc006616334eb680b1ed0d9aa2cad2d96cb3c8f596162b6b07a95") false over (fun _ h => by cases h) (by kernel_rfl) (fun _ h => by cases h) layoutNil_row_tie rfl ⟨rfl, rfl⟩ (by kernel_rfl) rfl
    (fun f fn hf hfn => by
      obtain rfl : f = 8 := Option.some.inj ((show Tryz.prog.funcNamed "heddle/heddlelaw16.LayoutNil" = some 8 by kernel_rfl).symm.trans hf) |>.symm
      obtain rfl : fn = Tryz.f8 := (Option.some.inj (Tryz.func8.symm.trans hfn)).symm
      exact ⟨by kernel_rfl, fun j t ht => by
        rw [Tryz.params8] at ht
        have hm : t ∈ [28] := by simpa using Array.mem_of_getElem? ht
        have hall : ([28].all fun u => !Tryz.prog.wantsStandIn u) = true := by kernel_rfl
        exact (show Tryz.prog.wantsStandIn t = false by simpa using List.all_eq_true.1 hall t hm)⟩)
    (by kernel_rfl)

end Go.Proofs.YtbpjmcjjambdkaaGreatDoor.layoutNil

namespace Go.Proofs.YtbpjmcjjambdkaaGreatDoor
theorem layoutNil_holds : Rows.LayoutNilCardSaid := layoutNil.card
#print axioms layoutNil_holds
end Go.Proofs.YtbpjmcjjambdkaaGreatDoor
