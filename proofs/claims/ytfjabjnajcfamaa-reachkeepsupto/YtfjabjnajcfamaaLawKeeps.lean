/-
  What is handed in is kept and what is answered is apart: the function ReachKeeps answers true and leaves its arguments as they were, for every net, all roots, every node and every cut of the bulk that the row bounds.
-/
import Derived.Test.YtfjabjnajcfamaaWKeeps
import Derived.Test.YtfjabjnajcfamaaOpen
import Derived.Deep.CondSized
namespace Go.Proofs.Ytfjabjnajcfamaa.reachKeeps
open Go.ChangeShapes Go.WideShapes Go.ChangeAt Go.RowKit

theorem some_bulk {H : Type} (d : DataW H) : 0 < Rows.uptoBulk d := by
  cases d
  case lit l => cases l <;> simp [Rows.uptoBulk]
  all_goals simp [Rows.uptoBulk]
theorem count_bulk {H : Type} : ∀ l : List (DataW H), l.length ≤ Rows.uptoBulkAll l
  | [] => Nat.zero_le _
  | d :: r => by
    have h1 := some_bulk d
    have h2 := count_bulk r
    simp only [Rows.uptoBulkAll, List.length_cons]
    omega
theorem list_bulk {H : Type} {enc : TypeId × Value → H} {W : World} {fuel : Nat} {a : Option Addr} {n c : Nat} {d : DataW H} {ps : List MemPlace} (h : DataW.trod enc Try.prog W 0 (fun _ => true) true fuel 23 [.slice a n c] = some (d, ps)) : n ≤ Rows.uptoBulk d := by
  rcases DataW.trod_slice Try.underlying23 h with ⟨hcs, _⟩ | ⟨ad, len, cap, elems, rest, fu, rfl, hcs, hx, _, hlc, _, hel, hE, _, _⟩
  · simp at hcs
    obtain ⟨_, rfl, rfl⟩ := hcs
    exact Nat.zero_le _
  · simp only [List.cons.injEq, Value.slice.injEq, and_true] at hcs
    obtain ⟨rfl, rfl, rfl⟩ := hcs
    simp only [Prod.mk.injEq] at hx
    obtain ⟨rfl, _⟩ := hx
    have := count_bulk (elems.map (·.1))
    simp only [Rows.uptoBulk, List.length_map] at this ⊢
    omega

theorem bulk_mem {H : Type} {d : DataW H} : ∀ {l : List (DataW H)}, d ∈ l → Rows.uptoBulk d ≤ Rows.uptoBulkAll l
  | e :: r, h => by
    simp only [Rows.uptoBulkAll]
    rcases List.mem_cons.1 h with rfl | h
    · omega
    · have := bulk_mem h
      omega

theorem open_netB {H : Type} {enc : TypeId × Value → H} {W : World} {fuel : Nat} {a : Option Addr} {n c : Nat} {d : DataW H} {ps : List MemPlace} (h : DataW.trod enc Try.prog W 0 (fun _ => true) true fuel 22 [.slice a n c] = some (d, ps))
    (hsz : ∀ y ∈ d.weights Try.prog 22, y ≤ 140737488351232) : ∃ M : List (List Int), Nt W a M ∧ M.length = n ∧ n ≤ Rows.uptoBulk d ∧ ∀ i, i < n → (lsAt M i).length ≤ Rows.uptoBulk d := by
  rcases DataW.trod_slice Try.underlying22 h with ⟨hcs, _⟩ | ⟨ad, len, cap, elems, rest, fu, rfl, hcs, hx, _, hlc, _, hel, hE, _, _⟩
  · simp at hcs
    obtain ⟨_, rfl, rfl⟩ := hcs
    exact ⟨[], ⟨.inl rfl, by simp⟩, rfl, Nat.zero_le _, fun i hi => by omega⟩
  · simp only [List.cons.injEq, Value.slice.injEq, and_true] at hcs
    obtain ⟨rfl, rfl, rfl⟩ := hcs
    simp only [Prod.mk.injEq] at hx
    obtain ⟨rfl, _⟩ := hx
    have hw1 := hsz (((elems.map (·.1)).length + (rest.map (·.1)).length) * Try.prog.bytesOf 23) (by
      simp only [DataW.weights, Try.underlying22]; exact List.mem_cons_self)
    rw [bytes23] at hw1
    simp only [List.length_map] at hw1
    have hcb := count_bulk (elems.map (·.1))
    rw [List.length_map] at hcb
    have hub : Rows.uptoBulk (DataW.slice (elems.map (·.1)) (rest.map (·.1))) = Rows.uptoBulkAll (elems.map (·.1)) + Rows.uptoBulkAll (rest.map (·.1)) + 1 := by simp only [Rows.uptoBulk]
    have hall : ∀ i, i < n → ∃ b o, ad.add (i * 1) = ⟨b, o, none⟩ ∧ ∃ xs : List Int, ∃ fa fc, W.cell? ⟨b, o, none⟩ = some (.slice fa xs.length fc) ∧ Is W fa xs ∧ xs.length ≤ fc ∧ xs.length ≤ 17592186044416 ∧ xs.length ≤ Rows.uptoBulkAll (elems.map (·.1)) := by
      intro i hi
      have he := hE i hi
      rw [cells23] at he
      have hlt : i < elems.length := by omega
      rw [List.getElem?_eq_getElem hlt] at he
      obtain ⟨cs, hc, ht⟩ := Option.bind_eq_some_iff.1 he
      generalize ad.add (i * 1) = ad' at hc ⊢
      obtain ⟨_, hlen, hcell⟩ := World.cells?_some hc
      obtain ⟨v, rfl⟩ : ∃ v, cs = [v] := by
        match cs, hlen with
        | [v], _ => exact ⟨v, rfl⟩
      obtain ⟨fa, fc, xs, rfl, hI, h1, h2, _⟩ := open_list ht (fun y hy => hsz y (by
        simp only [DataW.weights, Try.underlying22]
        refine List.mem_cons_of_mem _ (List.mem_append.2 (.inl ?_))
        exact weightsAll_mem (List.mem_map.2 ⟨elems[i], List.getElem_mem hlt, rfl⟩) y hy))
      have hlbx : xs.length ≤ Rows.uptoBulkAll (elems.map (·.1)) := Nat.le_trans (list_bulk ht) (bulk_mem (List.mem_map.2 ⟨elems[i], List.getElem_mem hlt, rfl⟩))
      have h0 := hcell 0 (by omega)
      have hsp := World.cell?_spot h0
      obtain ⟨b, o, sp⟩ := ad'
      have hsp2 : sp = none := by simpa [Addr.add] using hsp
      subst hsp2
      exact ⟨b, _, rfl, xs, fa, fc, by simpa [Addr.add_lit] using h0, hI, h1, by omega, hlbx⟩
    by_cases h0 : n = 0
    · exact ⟨[], ⟨.inl rfl, by simp⟩, by simp [h0], by omega, fun i hi => by omega⟩
    · obtain ⟨b, o, hb, _⟩ := hall 0 (by omega)
      obtain ⟨b', o', sp⟩ := ad
      have hsp : sp = none := by
        have := congrArg Addr.spot hb
        simpa [Addr.add] using this
      subst hsp
      obtain ⟨M, hM, hq⟩ := pick_list ([] : List Int) (fun i xs => ∃ fa fc, W.cell? ⟨b', o' + i, none⟩ = some (.slice fa xs.length fc) ∧ (Is W fa xs ∧ xs.length ≤ fc ∧ xs.length ≤ 17592186044416) ∧ xs.length ≤ Rows.uptoBulkAll (elems.map (·.1))) n (fun i hi => by
        obtain ⟨b2, o2, hb2, xs, fa, fc, h1, h2, h3, h4, h5⟩ := hall i hi
        rw [Addr.add_lit] at hb2
        simp only [Addr.mk.injEq, and_true] at hb2
        obtain ⟨rfl, rfl⟩ := hb2
        rw [Nat.mul_one] at h1
        exact ⟨xs, fa, fc, h1, ⟨h2, h3, h4⟩, h5⟩)
      refine ⟨M, ⟨.inr ⟨b', o', rfl, fun i hi => ?_⟩, by omega⟩, hM, by omega, fun i hi => ?_⟩
      · obtain ⟨fa, fc, h1, h2, _⟩ := hq i (by omega)
        exact ⟨fa, fc, h1, h2⟩
      · obtain ⟨_, _, _, _, h5⟩ := hq i (by omega)
        exact Nat.le_trans h5 (by omega)

set_option maxRecDepth 100000 in
theorem lifted (os : Go.Os) (started : os.Started) (H : Type) (enc : TypeId × Value → H) (F : Stop.Interp) :
    ReturnsInHanded {} Try.checked os 8 .any ((Rows.OpenSpec.upto Rows.reachKeepsSpec).pre6 enc Try.prog Try.f8 Rows.reachKeepsUptoRow.domain false) (((Rows.OpenSpec.upto Rows.reachKeepsSpec).at F).post enc Try.prog Try.f8 false true false false) := by
  refine returnsInHanded_of_cond_sized (C := Try.checked) (s := Rows.OpenSpec.upto Rows.reachKeepsSpec) (k := Rows.uptoSmall) rfl own started (by kernel_rfl) Try.func8
    (OpenSpec.witness (enc := enc) (C := Try.checked) (s := Rows.OpenSpec.upto Rows.reachKeepsSpec) (k := Rows.uptoSmall) rfl false ⟨#[], #[.slice none 0 0, .slice none 0 0, .int .i64 0, .int .i64 0], []⟩ 8 (by kernel_rfl) (by kernel_rfl) (by kernel_rfl)
      (x := ([.nil, .nil, .lit (.int .i64 0), .lit (.int .i64 0)], [], [])) (by kernel_rfl) rfl (by kernel_rfl)) ?_
  intro W base args ds gs before hval0 hW hcnd hk hsz0 _
  have hval : ∀ (j : Nat) t v, Try.f8.params[j]? = some t → args[j]? = some v → Value.okWide Try.prog W .any base t v := hval0
  have hW' := hW
  obtain ⟨p, q, hA0, hV, rfl, hfz, hnd⟩ := hW
  have hA : DataW.TrodAll enc Try.prog W 0 (fun _ => true) true Try.f8.params.toList args.toList ds p := hA0
  rw [Try.params8] at hA hval
  obtain ⟨v0, vs0, d0, ds0, p0, q0, hargs, rfl, rfl, h0, r0⟩ := trodAll_cons hA
  obtain ⟨v1, vs1, d1, ds1, p1, q1, rfl, rfl, rfl, h1, r1⟩ := trodAll_cons r0
  obtain ⟨v2, vs2, d2, ds2, p2, q2, rfl, rfl, rfl, h2, r2⟩ := trodAll_cons r1
  obtain ⟨v3, vs3, d3, ds3, p3, q3, rfl, rfl, rfl, h3, r3⟩ := trodAll_cons r2
  obtain ⟨rfl, rfl, rfl⟩ := trodAll_nil r3
  obtain rfl : args = #[v0, v1, v2, v3] := by cases args; simp_all
  obtain ⟨rfl, rfl⟩ := trodVars_none hV
  obtain ⟨a0, len0, cap0, rfl⟩ := okWide_slice Try.underlying22 (hval 0 22 v0 rfl rfl)
  have k0 := h0
  have lt0 : ∀ x ∈ p0, x.block < W.heap.size := by obtain ⟨m, hm⟩ := k0; exact DataW.trod_lt m _ _ _ hm
  obtain ⟨a1, len1, cap1, rfl⟩ := okWide_slice Try.underlying23 (hval 1 23 v1 rfl rfl)
  have k1 := h1
  have lt1 : ∀ x ∈ p1, x.block < W.heap.size := by obtain ⟨m, hm⟩ := k1; exact DataW.trod_lt m _ _ _ hm
  obtain ⟨a2, rfl, rfl, rfl, w2⟩ := open_int Try.underlying3 (hval 2 3 v2 rfl rfl) h2
  obtain ⟨a3, rfl, rfl, rfl, w3⟩ := open_int Try.underlying3 (hval 3 3 v3 rfl rfl) h3
  have hsz : (DataW.weightsEach Try.prog [22, 23, 3, 3] [d0, d1, _, _]).all (· ≤ reachBytes) = true := hsz0
  have hbk : Rows.uptoBulkAll ([d0, d1, _, _] ++ []) ≤ 1048576 := of_decide_eq_true hk
  have hwd0 : ∀ y ∈ d0.weights Try.prog 22, y ≤ 140737488351232 := by
    intro y hy
    have := List.all_eq_true.1 hsz y (DataW.weights_mem_each (j := 0) (t := 22) rfl rfl y hy)
    have h2 := of_decide_eq_true this
    simpa [reachBytes] using h2
  obtain ⟨fuel0, hf0⟩ := h0
  obtain ⟨M0, hN0, hl0, hc0, hm0⟩ := open_netB (n := len0) (c := cap0) hf0 hwd0
  have hwd1 : ∀ y ∈ d1.weights Try.prog 23, y ≤ 140737488351232 := by
    intro y hy
    have := List.all_eq_true.1 hsz y (DataW.weights_mem_each (j := 1) (t := 23) rfl rfl y hy)
    have h2 := of_decide_eq_true this
    simpa [reachBytes] using h2
  obtain ⟨fuel1, hf1⟩ := h1
  have hlb := list_bulk hf1
  obtain ⟨b1, c1, X1, hv1, hI1, hx1, hb1, hd1⟩ := open_list (v := .slice a1 len1 cap1) hf1 hwd1
  simp only [Value.slice.injEq] at hv1
  obtain ⟨rfl, rfl, rfl⟩ := hv1
  have hrb : X1.length ≤ 1048576 := by
    simp only [List.append_nil, Rows.uptoBulkAll] at hbk
    omega
  have hb0 : Rows.uptoBulk d0 ≤ 1048576 := by
    simp only [List.append_nil, Rows.uptoBulkAll] at hbk
    omega
  clear hA0 hval0
  refine (walk a0 len0 cap0 M0 a1 X1.length cap1 X1 a2 a3 W ⟨hN0, hl0, hI1, rfl, hrb⟩ (by omega) (fun i hi => Nat.le_trans (hm0 i hi) hb0)).mono fun e W' ⟨he, hext⟩ => ?_
  subst he
  have bel := hext.below
  exact ⟨_, rfl, _, _, _, [], _, [], hW', trodAll_mk1 (shut_bool Try.underlying4 _), (trodAll_cons_mk (Below.trod laidOut (by kernel_rfl) (of_decide_eq_true (by kernel_rfl)) k0 bel lt0) (trodAll_cons_mk (Below.trod laidOut (by kernel_rfl) (of_decide_eq_true (by kernel_rfl)) k1 bel lt1) (trodAll_cons_mk (shut_int Try.underlying3 w2) (trodAll_cons_mk (shut_int Try.underlying3 w3) trodAll_mk0)))), rfl, bel.frame _, fun h => by cases h⟩

theorem over : Rows.reachKeepsUptoRow.holds Try.pinned (Rows.OpenSpec.upto Rows.reachKeepsSpec) :=
  OpenClaim.holds_of_cond 8 Try.f8 rfl rfl rfl rfl rfl rfl rfl ⟨rfl, rfl, rfl, rfl, rfl⟩ rfl rfl rfl rfl rfl (by kernel_rfl) Try.func8 (by kernel_rfl)
    (of_decide_eq_true (by kernel_rfl)) (by unfold Func.isWrapper; first | (rw [if_pos (by decide +kernel)]; kernel_rfl) | (rw [if_neg (by decide +kernel)]; exact ⟨rfl, rfl⟩))
    (fun os started H enc _ F => lifted os started H enc F)

end Go.Proofs.Ytfjabjnajcfamaa.reachKeeps

namespace Go.Proofs.Ytfjabjnajcfamaa
theorem reachKeepsUpto_holds : Rows.ReachKeepsUptoSaid := reachKeeps.over
#print axioms reachKeepsUpto_holds
end Go.Proofs.Ytfjabjnajcfamaa
