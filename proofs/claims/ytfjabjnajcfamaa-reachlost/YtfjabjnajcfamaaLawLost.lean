/-
  What is lost without a node lies behind it: the function ReachLost answers true and leaves its arguments as they were, for every net, all roots, every node and every end; no condition.
-/
import Derived.Test.YtfjabjnajcfamaaWLost
import Derived.Test.YtfjabjnajcfamaaOpen
namespace Go.Proofs.Ytfjabjnajcfamaa.reachLost
open Go.RowKit

theorem walk (a : Option Addr) (n c : Nat) (M : List (List Int)) (ra : Option Addr) (rn rc : Nat) (R : List Int) (x y : Int) (w : World) (hN : Nt w a M) (hn : M.length = n) (_ : n ≤ c) (hR : Is w ra R) (hrn : R.length = rn) (hrc : rn ≤ rc) (hrb : rc ≤ 17592186043904) (_ : (Lit.int IntKind.i64 x).wf = true) (_ : (Lit.int IntKind.i64 y).wf = true) :
    Calls Try.prog 6 #[.slice a n c, .slice ra rn rc, .int .i64 x, .int .i64 y] w (SayPost w (.bool true)) := by
  by_cases he : errB M R [x] = 0
  · obtain ⟨N, R', T', rfl, rfl, hT, hGo, hTn⟩ := err_good he
    rw [cn_len] at hn
    rw [ci_len] at hrn
    obtain ⟨wo, hw⟩ : ∃ wo, T' = [wo] := by
      have : (ci T').length = 1 := by rw [← hT]; rfl
      rw [ci_len] at this
      match T', this with
      | [t], _ => exact ⟨t, rfl⟩
    subst hw
    obtain rfl : x = (wo : Int) := by simpa [ci] using hT
    exact good a n c ra rn rc wo y N R' w hN hn hR hrn (by omega) hGo (by have := hTn wo (by simp); omega)
  · exact bad a n c ra rn rc x y M R w hN hn hR hrn (by omega) he

end Go.Proofs.Ytfjabjnajcfamaa.reachLost

namespace Go.Proofs.Ytfjabjnajcfamaa.reachLost
open Go.ChangeShapes Go.WideShapes Go.ChangeAt Go.RowKit

set_option maxRecDepth 100000 in
theorem lifted (os : Go.Os) (started : os.Started) (H : Type) (enc : TypeId × Value → H) :
    ReturnsInHanded {} Try.checked os 6 .any (Rows.reachLostSpec.pre6 enc Try.prog Try.f6 Rows.reachLostRow.domain false) (Rows.reachLostSpec.post enc Try.prog Try.f6 false true false false) := by
  refine returnsInHanded_of_change_sized (C := Try.checked) own started (by kernel_rfl) Try.func6
    (ChangeSpec.witness6 (enc := enc) (C := Try.checked) false ⟨#[], #[.slice none 0 0, .slice none 0 0, .int .i64 0, .int .i64 0], []⟩ 6 (by kernel_rfl) (by kernel_rfl) (by kernel_rfl) (by kernel_rfl)) ?_
  intro W base args ds gs before hval0 hW hcnd hsz0 _
  have hval : ∀ (j : Nat) t v, Try.f6.params[j]? = some t → args[j]? = some v → Value.okWide Try.prog W .any base t v := hval0
  have hW' := hW
  obtain ⟨p, q, hA0, hV, rfl, hfz, hnd⟩ := hW
  have hA : DataW.TrodAll enc Try.prog W 0 (fun _ => true) true Try.f6.params.toList args.toList ds p := hA0
  rw [Try.params6] at hA hval
  obtain ⟨v0, vs0, d0, ds0, p0, q0, hargs, rfl, rfl, h0, r0⟩ := trodAll_cons hA
  obtain ⟨v1, vs1, d1, ds1, p1, q1, rfl, rfl, rfl, h1, r1⟩ := trodAll_cons r0
  obtain ⟨v2, vs2, d2, ds2, p2, q2, rfl, rfl, rfl, h2, r2⟩ := trodAll_cons r1
  obtain ⟨v3, vs3, d3, ds3, p3, q3, rfl, rfl, rfl, h3, r3⟩ := trodAll_cons r2
  obtain ⟨rfl, rfl, rfl⟩ := trodAll_nil r3
  obtain rfl : args = #[v0, v1, v2, v3] := by cases args; simp_all
  obtain ⟨rfl, rfl⟩ := trodVars_none hV
  obtain ⟨a0, len0, cap0, rfl⟩ := okWide_slice Try.underlying22 (hval 0 22 v0 rfl rfl)
  have k0 := h0
  have lt0 : ∀ x ∈ p0, x.block < W.heap.size := by obtain ⟨m, hm⟩ := k0; exact DataW.trod_lt m _ _ _ hm
  obtain ⟨a1, len1, cap1, rfl⟩ := okWide_slice Try.underlying23 (hval 1 23 v1 rfl rfl)
  have k1 := h1
  have lt1 : ∀ x ∈ p1, x.block < W.heap.size := by obtain ⟨m, hm⟩ := k1; exact DataW.trod_lt m _ _ _ hm
  obtain ⟨a2, rfl, rfl, rfl, w2⟩ := open_int Try.underlying3 (hval 2 3 v2 rfl rfl) h2
  obtain ⟨a3, rfl, rfl, rfl, w3⟩ := open_int Try.underlying3 (hval 3 3 v3 rfl rfl) h3
  have hsz : (DataW.weightsEach Try.prog [22, 23, 3, 3] [d0, d1, _, _]).all (· ≤ reachBytes) = true := hsz0
  have hwd0 : ∀ y ∈ d0.weights Try.prog 22, y ≤ 140737488351232 := by
    intro y hy
    have := List.all_eq_true.1 hsz y (DataW.weights_mem_each (j := 0) (t := 22) rfl rfl y hy)
    have h2 := of_decide_eq_true this
    simpa [reachBytes] using h2
  obtain ⟨fuel0, hf0⟩ := h0
  obtain ⟨M0, hN0, hl0, hc0⟩ := open_net (n := len0) (c := cap0) hf0 hwd0
  have hwd1 : ∀ y ∈ d1.weights Try.prog 23, y ≤ 140737488351232 := by
    intro y hy
    have := List.all_eq_true.1 hsz y (DataW.weights_mem_each (j := 1) (t := 23) rfl rfl y hy)
    have h2 := of_decide_eq_true this
    simpa [reachBytes] using h2
  obtain ⟨fuel1, hf1⟩ := h1
  obtain ⟨b1, c1, X1, hv1, hI1, hx1, hb1, hd1⟩ := open_list (v := .slice a1 len1 cap1) hf1 hwd1
  simp only [Value.slice.injEq] at hv1
  obtain ⟨rfl, rfl, rfl⟩ := hv1
  clear hA0 hval0
  refine (walk a0 len0 cap0 M0 a1 X1.length cap1 X1 a2 a3 W hN0 hl0 hc0 hI1 rfl hx1 hd1 w2 w3).mono fun e W' ⟨he, hext⟩ => ?_
  subst he
  have bel := hext.below
  exact ⟨_, rfl, _, _, _, [], _, [], hW', trodAll_mk1 (shut_bool Try.underlying4 _), (trodAll_cons_mk (Below.trod laidOut (by kernel_rfl) (of_decide_eq_true (by kernel_rfl)) k0 bel lt0) (trodAll_cons_mk (Below.trod laidOut (by kernel_rfl) (of_decide_eq_true (by kernel_rfl)) k1 bel lt1) (trodAll_cons_mk (shut_int Try.underlying3 w2) (trodAll_cons_mk (shut_int Try.underlying3 w3) trodAll_mk0)))), rfl, bel.frame _, fun h => by cases h⟩

theorem over : Rows.reachLostRow.holds Try.pinned (OpenSpec.ofChange Rows.reachLostSpec) :=
  OpenClaim.holds_of_wide 6 Try.f6 rfl rfl rfl rfl rfl rfl rfl ⟨rfl, rfl, rfl, rfl, rfl⟩ rfl rfl rfl rfl rfl (by kernel_rfl) Try.func6 (by kernel_rfl)
    (of_decide_eq_true (by kernel_rfl)) (by unfold Func.isWrapper; first | (rw [if_pos (by decide +kernel)]; kernel_rfl) | (rw [if_neg (by decide +kernel)]; exact ⟨rfl, rfl⟩))
    (fun os started H enc _ => lifted os started H enc)

end Go.Proofs.Ytfjabjnajcfamaa.reachLost

namespace Go.Proofs.Ytfjabjnajcfamaa
theorem reachLost_holds : Rows.ReachLostSaid := reachLost.over
#print axioms reachLost_holds
end Go.Proofs.Ytfjabjnajcfamaa
