/-
  A way leads from a root, by what each node names, to its end, there is one just where the end is reached, and no other way is shorter: the function ReachWay answers true and leaves its arguments as they were, for every net, all roots, every end and every other way; no condition.
-/
import Derived.Test.YtfjabjnajcfamaaWWay
import Derived.Test.YtfjabjnajcfamaaOpen
namespace Go.Proofs.Ytfjabjnajcfamaa.reachWay
open Go.RowKit

theorem walk (a : Option Addr) (n c : Nat) (M : List (List Int)) (ra : Option Addr) (rn rc : Nat) (R : List Int) (x : Int) (xa : Option Addr) (xn xc : Nat) (X : List Int) (w : World) (hN : Nt w a M) (hn : M.length = n) (_ : n ≤ c) (hR : Is w ra R) (hrn : R.length = rn) (hrc : rn ≤ rc) (hrb : rc ≤ 17592186043904) (_ : (Lit.int IntKind.i64 x).wf = true) (hX : Is w xa X) (hxn : X.length = xn) (hxc : xn ≤ xc) (hxb : xc ≤ 17592186043904) :
    Calls Try.prog 5 #[.slice a n c, .slice ra rn rc, .int .i64 x, .slice xa xn xc] w (SayPost w (.bool true)) := by
  by_cases he : errB M R [] = 0
  · obtain ⟨N, R', T', rfl, rfl, _, hGo, _⟩ := err_good he
    rw [cn_len] at hn
    rw [ci_len] at hrn
    by_cases hx : 0 ≤ x ∧ x < n
    · obtain ⟨tg, rfl⟩ : ∃ tg : Nat, x = tg := ⟨x.toNat, by omega⟩
      exact good a n c ra rn rc tg xa xn xc X N R' w hN hn hR hrn (by omega) hGo (by omega) hX hxn (by omega)
    · exact outside a n c ra rn rc x _ N R' w hN hn hR hrn (by omega) hGo hx
  · exact bad a n c ra rn rc x _ M R w hN hn hR hrn (by omega) he

end Go.Proofs.Ytfjabjnajcfamaa.reachWay

namespace Go.Proofs.Ytfjabjnajcfamaa.reachWay
open Go.ChangeShapes Go.WideShapes Go.ChangeAt Go.RowKit

set_option maxRecDepth 100000 in
theorem lifted (os : Go.Os) (started : os.Started) (H : Type) (enc : TypeId × Value → H) :
    ReturnsInHanded {} Try.checked os 5 .any (Rows.reachWaySpec.pre6 enc Try.prog Try.f5 Rows.reachWayRow.domain false) (Rows.reachWaySpec.post enc Try.prog Try.f5 false true false false) := by
  refine returnsInHanded_of_change_sized (C := Try.checked) own started (by kernel_rfl) Try.func5
    (ChangeSpec.witness6 (enc := enc) (C := Try.checked) false ⟨#[], #[.slice none 0 0, .slice none 0 0, .int .i64 0, .slice none 0 0], []⟩ 5 (by kernel_rfl) (by kernel_rfl) (by kernel_rfl) (by kernel_rfl)) ?_
  intro W base args ds gs before hval0 hW hcnd hsz0 _
  have hval : ∀ (j : Nat) t v, Try.f5.params[j]? = some t → args[j]? = some v → Value.okWide Try.prog W .any base t v := hval0
  have hW' := hW
  obtain ⟨p, q, hA0, hV, rfl, hfz, hnd⟩ := hW
  have hA : DataW.TrodAll enc Try.prog W 0 (fun _ => true) true Try.f5.params.toList args.toList ds p := hA0
  rw [Try.params5] at hA hval
  obtain ⟨v0, vs0, d0, ds0, p0, q0, hargs, rfl, rfl, h0, r0⟩ := trodAll_cons hA
  obtain ⟨v1, vs1, d1, ds1, p1, q1, rfl, rfl, rfl, h1, r1⟩ := trodAll_cons r0
  obtain ⟨v2, vs2, d2, ds2, p2, q2, rfl, rfl, rfl, h2, r2⟩ := trodAll_cons r1
  obtain ⟨v3, vs3, d3, ds3, p3, q3, rfl, rfl, rfl, h3, r3⟩ := trodAll_cons r2
  obtain ⟨rfl, rfl, rfl⟩ := trodAll_nil r3
  obtain rfl : args = #[v0, v1, v2, v3] := by cases args; simp_all
  obtain ⟨rfl, rfl⟩ := trodVars_none hV
  obtain ⟨a0, len0, cap0, rfl⟩ := okWide_slice Try.underlying22 (hval 0 22 v0 rfl rfl)
  have k0 := h0
  have lt0 : ∀ x ∈ p0, x.block < W.heap.size := by obtain ⟨m, hm⟩ := k0; exact DataW.trod_lt m _ _ _ hm
  obtain ⟨a1, len1, cap1, rfl⟩ := okWide_slice Try.underlying23 (hval 1 23 v1 rfl rfl)
  have k1 := h1
  have lt1 : ∀ x ∈ p1, x.block < W.heap.size := by obtain ⟨m, hm⟩ := k1; exact DataW.trod_lt m _ _ _ hm
  obtain ⟨a2, rfl, rfl, rfl, w2⟩ := open_int Try.underlying3 (hval 2 3 v2 rfl rfl) h2
  obtain ⟨a3, len3, cap3, rfl⟩ := okWide_slice Try.underlying23 (hval 3 23 v3 rfl rfl)
  have k3 := h3
  have lt3 : ∀ x ∈ p3, x.block < W.heap.size := by obtain ⟨m, hm⟩ := k3; exact DataW.trod_lt m _ _ _ hm
  have hsz : (DataW.weightsEach Try.prog [22, 23, 3, 23] [d0, d1, _, d3]).all (· ≤ reachBytes) = true := hsz0
  have hwd0 : ∀ y ∈ d0.weights Try.prog 22, y ≤ 140737488351232 := by
    intro y hy
    have := List.all_eq_true.1 hsz y (DataW.weights_mem_each (j := 0) (t := 22) rfl rfl y hy)
    have h2 := of_decide_eq_true this
    simpa [reachBytes] using h2
  obtain ⟨fuel0, hf0⟩ := h0
  obtain ⟨M0, hN0, hl0, hc0⟩ := open_net (n := len0) (c := cap0) hf0 hwd0
  have hwd1 : ∀ y ∈ d1.weights Try.prog 23, y ≤ 140737488351232 := by
    intro y hy
    have := List.all_eq_true.1 hsz y (DataW.weights_mem_each (j := 1) (t := 23) rfl rfl y hy)
    have h2 := of_decide_eq_true this
    simpa [reachBytes] using h2
  obtain ⟨fuel1, hf1⟩ := h1
  obtain ⟨b1, c1, X1, hv1, hI1, hx1, hb1, hd1⟩ := open_list (v := .slice a1 len1 cap1) hf1 hwd1
  simp only [Value.slice.injEq] at hv1
  obtain ⟨rfl, rfl, rfl⟩ := hv1
  have hwd3 : ∀ y ∈ d3.weights Try.prog 23, y ≤ 140737488351232 := by
    intro y hy
    have := List.all_eq_true.1 hsz y (DataW.weights_mem_each (j := 3) (t := 23) rfl rfl y hy)
    have h2 := of_decide_eq_true this
    simpa [reachBytes] using h2
  obtain ⟨fuel3, hf3⟩ := h3
  obtain ⟨b3, c3, X3, hv3, hI3, hx3, hb3, hd3⟩ := open_list (v := .slice a3 len3 cap3) hf3 hwd3
  simp only [Value.slice.injEq] at hv3
  obtain ⟨rfl, rfl, rfl⟩ := hv3
  clear hA0 hval0
  refine (walk a0 len0 cap0 M0 a1 X1.length cap1 X1 a2 a3 X3.length cap3 X3 W hN0 hl0 hc0 hI1 rfl hx1 hd1 w2 hI3 rfl hx3 hd3).mono fun e W' ⟨he, hext⟩ => ?_
  subst he
  have bel := hext.below
  exact ⟨_, rfl, _, _, _, [], _, [], hW', trodAll_mk1 (shut_bool Try.underlying4 _), (trodAll_cons_mk (Below.trod laidOut (by kernel_rfl) (of_decide_eq_true (by kernel_rfl)) k0 bel lt0) (trodAll_cons_mk (Below.trod laidOut (by kernel_rfl) (of_decide_eq_true (by kernel_rfl)) k1 bel lt1) (trodAll_cons_mk (shut_int Try.underlying3 w2) (trodAll_cons_mk (Below.trod laidOut (by kernel_rfl) (of_decide_eq_true (by kernel_rfl)) k3 bel lt3) trodAll_mk0)))), rfl, bel.frame _, fun h => by cases h⟩

theorem over : Rows.reachWayRow.holds Try.pinned (OpenSpec.ofChange Rows.reachWaySpec) :=
  OpenClaim.holds_of_wide 5 Try.f5 rfl rfl rfl rfl rfl rfl rfl ⟨rfl, rfl, rfl, rfl, rfl⟩ rfl rfl rfl rfl rfl (by kernel_rfl) Try.func5 (by kernel_rfl)
    (of_decide_eq_true (by kernel_rfl)) (by unfold Func.isWrapper; first | (rw [if_pos (by decide +kernel)]; kernel_rfl) | (rw [if_neg (by decide +kernel)]; exact ⟨rfl, rfl⟩))
    (fun os started H enc _ => lifted os started H enc)

end Go.Proofs.Ytfjabjnajcfamaa.reachWay

namespace Go.Proofs.Ytfjabjnajcfamaa
theorem reachWay_holds : Rows.ReachWaySaid := reachWay.over
#print axioms reachWay_holds
end Go.Proofs.Ytfjabjnajcfamaa
