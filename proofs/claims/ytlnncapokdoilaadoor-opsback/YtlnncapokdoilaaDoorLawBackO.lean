/-
  What was boxed is unboxed as it was, of its own type alone: the function OpsBack answers true and leaves its arguments as they were, for every table, type, list of cells and further number; the condition is what the table of parts of the program holds.
-/
import Derived.Test.YtlnncapokdoilaaDoorWBackO
import Derived.Test.YtlnncapokdoilaaDoorOpen
import Derived.Test.YtlnncapokdoilaaDoorCards
import Derived.Test.YtlnncapokdoilaaDoorTie
namespace Go.Proofs.YtlnncapokdoilaaDoor.opsBack
open Go.ChangeShapes Go.WideShapes Go.ChangeAt Go.RowKit

set_option maxRecDepth 100000 in
theorem lifted (os : Go.Os) (started : os.Started) (H : Type) (enc : TypeId × Value → H) :
    ReturnsInHanded {} Tryd.checked os 4 .any (fun w args => (Rows.opsBackSpec.pre enc Tryd.prog Tryd.f4 [] false w args ∧ laidMetH Tryd.prog [("heddle/types.partsOf", Rows.laid_heddle_types_partsOf)] w) ∧ sizedMet enc Tryd.prog Tryd.f4 (OpenSpec.ofChange Rows.opsBackSpec) false w args)
      (Rows.opsBackSpec.post enc Tryd.prog Tryd.f4 false true false false) := by
  refine returnsInHanded_of_change_and (C := Tryd.checked) (X := fun w _ => laidMetH Tryd.prog [("heddle/types.partsOf", Rows.laid_heddle_types_partsOf)] w) (fun _ _ _ hh h => h.of_heap hh) own started (by kernel_rfl) Tryd.func4
    (ChangeSpec.witness_shaped (enc := enc) (C := Tryd.checked) (os := os) (X := fun w _ => laidMetH Tryd.prog [("heddle/types.partsOf", Rows.laid_heddle_types_partsOf)] w) false (World.laidAll Tryd.prog os [("heddle/types.partsOf", Rows.laid_heddle_types_partsOf)]) #[.agg #[.slice none 0 0, .int .i64 0, .slice none 0 0], .int .i64 0] 8 (World.laidAll_os _ _ _)
      (World.shaped_of_ZipB (by kernel_rfl) (by kernel_rfl)) (by kernel_rfl) (by kernel_rfl) (by kernel_rfl)
      (by rw [MakeChecks.laidMetH_plain _ _ _ (by kernel_rfl)]; exact laidMet_laidAll _ (by kernel_rfl) (by kernel_rfl))) ?_
  intro W base args ds gs before hval0 hW _ hsz0 hL _
  have hval : ∀ (j : Nat) t v, Tryd.f4.params[j]? = some t → args[j]? = some v → Value.okWide Tryd.prog W .any base t v := hval0
  have hW' := hW
  obtain ⟨p, q, hA0, hV, rfl, hfz, hnd⟩ := hW
  have hA : DataW.TrodAll enc Tryd.prog W 0 (fun _ => true) true Tryd.f4.params.toList args.toList ds p := hA0
  rw [Tryd.params4] at hA hval
  obtain ⟨v0, vs0, d0, ds0, p0, q0, hargs, rfl, rfl, h0, r0⟩ := trodAll_cons hA
  obtain ⟨v1, vs1, d1, ds1, p1, q1, rfl, rfl, rfl, h1, r1⟩ := trodAll_cons r0
  obtain ⟨rfl, rfl, rfl⟩ := trodAll_nil r1
  obtain rfl : args = #[v0, v1] := by cases args; simp_all
  obtain ⟨rfl, rfl⟩ := trodVars_none hV
  obtain ⟨a1, rfl, rfl, rfl, w1⟩ := open_int Tryd.underlying3 (hval 1 3 v1 rfl rfl) h1
  have k0 := h0
  have lt0 : ∀ x ∈ p0, x.block < W.heap.size := by obtain ⟨m, hm⟩ := k0; exact DataW.trod_lt m _ _ _ hm
  have hsz : (DataW.weightsEach Tryd.prog [25, 3] [d0, _]).all (· ≤ reachBytes) = true := hsz0
  have hw0 : ∀ y ∈ d0.weights Tryd.prog 25, y ≤ 140737488351232 := by
    intro y hy
    have := List.all_eq_true.1 hsz y (DataW.weights_mem_each (j := 0) (t := 25) rfl rfl y hy)
    have h2 := of_decide_eq_true this
    simpa [reachBytes] using h2
  obtain ⟨ta0, tn0, tc0, tt0, va0, vn0, vc0, ts0, dv0, l0, rfl, hT0, htn0, htc0, hCC0, hn0, hnc0⟩ := open_value (hval 0 25 v0 rfl rfl) h0 hw0
  subst hn0
  have hC0 := hCC0.mono (show dv0 ≤ dv0 by omega)
  clear hA0 hval0
  refine (oback_walk ts0 ta0 tn0 tc0 htn0 (dv0) tt0 va0 l0 vc0 a1 W hC0 hT0 (gl_of hL)).mono fun e W' ⟨he, hext⟩ => ?_
  subst he
  have bel := hext.below
  exact ⟨_, rfl, _, _, _, [], _, [], hW', trodAll_mk1 (shut_bool Tryd.underlying4 _), (trodAll_cons_mk (Below.trod laidOut (by kernel_rfl) (of_decide_eq_true (by kernel_rfl)) k0 bel lt0) (trodAll_cons_mk (shut_int Tryd.underlying3 w1) trodAll_mk0)), rfl, bel.frame _, fun h => by cases h⟩

theorem over : Rows.opsBackRow.holds Tryd.pinned (OpenSpec.ofChange Rows.opsBackSpec) :=
  OpenClaim.holds_of_wide 4 Tryd.f4 rfl rfl rfl rfl rfl rfl rfl ⟨rfl, rfl, rfl, rfl, rfl⟩ rfl rfl rfl rfl rfl (by kernel_rfl) Tryd.func4 (by kernel_rfl)
    (of_decide_eq_true (by kernel_rfl)) (by unfold Func.isWrapper; first | (rw [if_pos (by decide +kernel)]; kernel_rfl) | (rw [if_neg (by decide +kernel)]; exact ⟨rfl, rfl⟩))
    (fun os started H enc _ => lifted os started H enc)

theorem card : Rows.OpsBackCardSaid :=
  Claim7.holds_tied_plain_at .later [] [.data] true (true, "7c76734349dd9026730d9debf755d096bcb0934d87efbfa20af2d7bd77326583") false over (fun _ h => by cases h) (by kernel_rfl) (fun _ h => by cases h) opsBack_row_tie rfl ⟨rfl, rfl⟩ (by kernel_rfl) rfl
    (fun f fn hf hfn => by
      obtain rfl : f = 4 := Option.some.inj ((show Tryd.prog.funcNamed "heddle/heddlelaw11.OpsBack" = some 4 by kernel_rfl).symm.trans hf) |>.symm
      obtain rfl : fn = Tryd.f4 := (Option.some.inj (Tryd.func4.symm.trans hfn)).symm
      exact ⟨by kernel_rfl, fun j t ht => by
        rw [Tryd.params4] at ht
        have hm : t ∈ [25, 3] := by simpa using Array.mem_of_getElem? ht
        have hall : ([25, 3].all fun u => !Tryd.prog.wantsStandIn u) = true := by kernel_rfl
        exact (show Tryd.prog.wantsStandIn t = false by simpa using List.all_eq_true.1 hall t hm)⟩)
    (by kernel_rfl)

end Go.Proofs.YtlnncapokdoilaaDoor.opsBack

namespace Go.Proofs.YtlnncapokdoilaaDoor
theorem opsBack_holds : Rows.OpsBackCardSaid := opsBack.card
#print axioms opsBack_holds
end Go.Proofs.YtlnncapokdoilaaDoor
