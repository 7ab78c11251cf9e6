/-
  Whatever pages are taken and given back, each call answers as the reference does, page by page: the function RunsPlays answers true and leaves its arguments as they were, for every number of pages and every script; no condition.
-/
import Derived.Test.YtkdgekdacinlhaaRefE
import Derived.SizedLaws
namespace Go.Proofs.Ytkdgekdacinlhaa
open Go.RowKit

/-- A script's numbers are numbers of 64 bits. -/
def Nb (S : List (Int × Int)) : Prop := ∀ i, i < S.length → (S.getD i (0, 0)).2 ≤ 9223372036854775807

theorem open_op_nb {H : Type} {enc : TypeId × Value → H} {W : World} {fuel : Nat} {ad : Addr} {cs : List Value} {x : DataW H × List MemPlace} (hc : W.cells? 0 ad 2 = some cs) (h : DataW.trod enc Try.prog W 0 (fun _ => true) true fuel 33 cs = some x) :
    ∃ N, W.cell? (ad.add 1) = some (.int .i64 N) ∧ N ≤ 9223372036854775807 := by
  obtain ⟨_, hlen, hcell⟩ := World.cells?_some hc
  obtain ⟨v0, v1, rfl⟩ : ∃ v0 v1, cs = [v0, v1] := by
    match cs, hlen with
    | [v0, v1], _ => exact ⟨v0, v1, rfl⟩
  obtain ⟨xs, n, rfl, rfl, _, hxl, hf⟩ := DataW.trod_struct Try.underlying33 h
  have f1 : DataW.trod enc Try.prog W 0 (fun _ => true) true n 3 (([v0, v1].drop 1).take (Try.prog.cellsOf 3)) = xs[1]? := hf 1 _ rfl
  rw [cells3] at f1
  have hxl2 : xs.length = 2 := hxl
  obtain ⟨x0, x1, rfl⟩ : ∃ x0 x1, xs = [x0, x1] := by
    match xs, hxl2 with
    | [x0, x1], _ => exact ⟨x0, x1, rfl⟩
  obtain ⟨N, e1, rfl, w1⟩ := DataW.trod_int Try.underlying3 f1
  obtain rfl : v1 = .int .i64 N := by simpa using e1
  refine ⟨N, hcell 1 (by omega), ?_⟩
  have := w1
  simp only [Lit.wf, Bool.and_eq_true, decide_eq_true_eq] at this
  exact this.2

theorem script_nb {H : Type} {enc : TypeId × Value → H} {W : World} {fuel : Nat} {a : Option Addr} {n c : Nat} {d : DataW H} {ps : List MemPlace} (h : DataW.trod enc Try.prog W 0 (fun _ => true) true fuel 22 [.slice a n c] = some (d, ps))
    {S : List (Int × Int)} (hS : Sc W a S) (hn : S.length = n) : Nb S := by
  intro i hi
  rcases hS.at_ with rfl | ⟨b, o, rfl, hcs⟩
  · simp at hi
  · rcases DataW.trod_slice Try.underlying22 h with ⟨hc0, _⟩ | ⟨ad, len, cap, elems, rest, fu, rfl, hcs0, hx, _, _, _, hel, hE, _, _⟩
    · simp at hc0
    · simp only [List.cons.injEq, Value.slice.injEq, and_true] at hcs0
      obtain ⟨hA, rfl, rfl⟩ := hcs0
      cases hA
      have he := hE i (by omega)
      rw [cells33] at he
      have hlt : i < elems.length := by omega
      rw [List.getElem?_eq_getElem hlt] at he
      obtain ⟨cs, hc, ht⟩ := Option.bind_eq_some_iff.1 he
      obtain ⟨N, h1, h2⟩ := open_op_nb hc ht
      have h3 := (hcs i hi).2
      simp only [Addr.add_lit] at h1
      rw [h3] at h1
      cases h1
      exact h2

namespace runsPlays

set_option maxRecDepth 100000 in
set_option maxHeartbeats 8000000 in
theorem walk0 (pages : Int) (a : Option Addr) (n c : Nat) (S : List (Int × Int)) (w : World) (hS : Sc w a S) (hn : S.length = n) (hnb : Nb S) :
    Calls Try.prog 3 #[.int .i64 pages, .slice a n c] w (SayPost w (.bool true)) := by
  have hsl := hS.len
  rw [hn] at hsl
  have HS := hid hS
  have HN := hid hn
  have HNB := hid hnb
  clear hS hn hnb
  by_cases hbad : pages < 0 ∨ 1024 < pages
  · have HKa : Hid (∀ W, Calls Try.prog 9 #[] W (SayPost W (.bool true))) := awake_any
    have HKn : Hid (∀ W, Calls Try.prog 10 #[.int .i64 pages] W fun e w' => e = .returned (.tuple #[.pointer none, .int .i64 2]) ∧ w' = W) := fun W => new_bad pages W hbad
    have HKr : Hid (∀ W, Calls Try.prog 11 #[.int .i64 pages] W fun e w' => e = .returned (.tuple #[.pointer none, .int .i64 2]) ∧ w' = W) := fun W => rnew_bad pages W hbad
    clear hbad
    go_enter Try.func3, Try.ntmps3
    go_wp2_with (first
      | (go_at_call 9; refine (HKa.out _).mono ?_; rintro e w1 ⟨rfl, hE⟩; have HE := hid hE; clear hE)
      | (go_at_call 10; refine (HKn.out _).mono ?_; rintro e w2 ⟨rfl, rfl⟩)
      | (go_at_call 11; refine (HKr.out _).mono ?_; rintro e w3 ⟨rfl, rfl⟩))
    go_ret
    exact ⟨rfl, HE.out⟩
  · obtain ⟨P, rfl⟩ : ∃ P : Nat, pages = (P : Int) := ⟨pages.toNat, by omega⟩
    have hP : P ≤ 1024 := by omega
    have HKa : Hid (∀ W, Calls Try.prog 9 #[] W (SayPost W (.bool true))) := awake_any
    have HKn : Hid (∀ W, Calls Try.prog 10 #[.int .i64 (P : Nat)] W (NewPost W P)) := fun W => new_ok P W hP
    have HKr : Hid (∀ W, Calls Try.prog 11 #[.int .i64 (P : Nat)] W (RNewPost W P)) := fun W => rnew_ok P W hP
    clear hbad
    go_enter Try.func3, Try.ntmps3
    go_wp2_with (first
      | (go_at_call 9; refine (HKa.out _).mono ?_; rintro e w1 ⟨rfl, hE⟩; have HE := hid hE; clear hE)
      | (go_at_call 10; refine (HKn.out _).mono ?_; rintro e w2 ⟨p, v, rfl, hR, hp, hv, hE2⟩; have HR := hid hR; have HV := hid hv; have HE2 := hid hE2; have HP := hid hp; clear hR hv hE2 hp)
      | (go_at_call 11; refine (HKr.out _).mono ?_; rintro e w3 ⟨q, vq, rfl, hF, hq, hvq, hE3⟩; have HF := hid hF; have HVQ := hid hvq; have HE3 := hid hE3; clear hF hvq hE3 hq))
    have HPl : Hid (Pl P w p q vq w3) := ⟨v, _, _, HR.out.keep0 HE3.out, HF.out, inv_new P hP, of_new P, fun g hg => by have := HV.out g hg; have := HE.out.size; omega, (HE.out.trans HE2.out).trans HE3.out⟩
    have HP2 : Hid (w.heap.size ≤ p) := by have := HP.out; have := HE.out.size; show w.heap.size ≤ p; omega
    have HVQ2 : Hid (∀ g, vq.ownBlock = some g → w.heap.size ≤ g) := fun g hg => by have := HVQ.out g hg; have := HE.out.size; have := HE2.out.size; omega
    clear HR HV HF HVQ HP HE HE2 HE3
    go_loopw [9] (fun y wr => ∃ i : Nat, y = .int .i64 i ∧ i ≤ n ∧ Pl P w p q vq wr) (fun y _ => (n - (intOf y)).toNat)
    case atStart => exact ⟨0, rfl, by omega, HPl.out⟩
    case round =>
      obtain ⟨i, rfl, hi, hPl⟩ := hrel
      have HPr := hid hPl
      have HEr : Hid (Ext [] w wr) := by obtain ⟨_, _, _, _, _, _, _, _, hE⟩ := hPl; exact hE
      clear hPl HPl
      by_cases hlt : i < n
      · rcases (HS.out.keep0 HEr.out).at_ with h0 | ⟨b, o, rfl, hcs⟩
        · have := HN.out
          rw [h0] at this
          simp at this
          omega
        · obtain ⟨c0, c1⟩ := hcs i (by rw [HN.out]; exact hlt)
          have K := step_any (S.getD i (0, 0)).1 (S.getD i (0, 0)).2 HPr.out HP2.out HVQ2.out (HNB.out i (by rw [HN.out]; exact hlt))
          clear hcs
          generalize S.getD i (0, 0) = o1 at *
          go_upto_region 12 with fail
          go_wp2_with (go_at_call 12; refine K.mono ?_; rintro e w4 ⟨rfl, h4⟩; have H4 := hid h4; clear h4)
          exact ⟨⟨i + 1, by go_num, by omega, H4.out⟩, by simp [intOf]; omega⟩
      · obtain ⟨v2, L2, O2, hR, hF, hI, hO, hv, hE⟩ := HPr.out
        have hLl : L2.length ≤ 1024 := Nat.le_trans hI.len hI.le
        have K1 := told_any p v2 L2 wr hR hLl
        have HF := hid hF
        have HI := hid hI
        have HO := hid hO
        clear hR hF hI hO hv hE
        go_wp2_with (first
          | (go_at_call 13; refine K1.mono ?_; rintro e w5 ⟨v5, rfl, hL5, hn5, hE5⟩; obtain ⟨a5, c5, rfl, _⟩ := hL5.slice; have K2 := rall_any q vq L2 O2 w5 (HF.out.keep0 hE5) HI.out HO.out; have HL5 := hid hL5; have HE5 := hid hE5; clear hL5 hn5 hE5 K1)
          | (go_at_call 15; refine K2.mono ?_; rintro e w6 ⟨v6, rfl, hL6, hn6, hE6⟩; obtain ⟨a6, c6, rfl, _⟩ := hL6.slice; have K3 := same_any _ _ L2 L2 w6 (HL5.out.keep0 hE6) hL6 (by omega); rw [show decide (L2 = L2) = true by simp] at K3; have HE6 := hid hE6; clear hL6 hn6 hE6 K2)
          | (go_at_call 14; refine K3.mono ?_; rintro e w7 ⟨rfl, hE7⟩; have HE7 := hid hE7; clear hE7 K3))
        go_ret
        exact ⟨rfl, ((HEr.out.trans HE5.out).trans HE6.out).trans HE7.out⟩

end runsPlays
end Go.Proofs.Ytkdgekdacinlhaa

namespace Go.Proofs.Ytkdgekdacinlhaa.runsPlays
open Go.ChangeShapes Go.WideShapes Go.ChangeAt Go.RowKit

set_option maxRecDepth 100000 in
theorem lifted (os : Os) (started : os.Started) (H : Type) (enc : TypeId × Value → H) :
    ReturnsInHanded {} Try.checked os 3 .any (Rows.runsPlaysSpec.pre6 enc Try.prog Try.f3 Rows.runsPlaysRow.domain false) (Rows.runsPlaysSpec.post enc Try.prog Try.f3 false true false false) := by
  refine returnsInHanded_of_change_sized (C := Try.checked) own started (by kernel_rfl) Try.func3
    (ChangeSpec.witness6 (enc := enc) (C := Try.checked) false ⟨#[], #[.int .i64 0, .slice none 0 0], []⟩ 8 (by kernel_rfl) (by kernel_rfl) (by kernel_rfl) (by kernel_rfl)) ?_
  intro W base args ds gs before hval0 hW hcnd hsz0 _
  have hval : ∀ (j : Nat) t v, Try.f3.params[j]? = some t → args[j]? = some v → Value.okWide Try.prog W .any base t v := hval0
  have hW' := hW
  obtain ⟨p, q, hA0, hV, rfl, hfz, hnd⟩ := hW
  have hA : DataW.TrodAll enc Try.prog W 0 (fun _ => true) true Try.f3.params.toList args.toList ds p := hA0
  rw [Try.params3] at hA hval
  obtain ⟨v0, vs0, d0, ds0, p0, q0, hargs, rfl, rfl, h0, r0⟩ := trodAll_cons hA
  obtain ⟨v1, vs1, d1, ds1, p1, q1, rfl, rfl, rfl, h1, r1⟩ := trodAll_cons r0
  obtain ⟨rfl, rfl, rfl⟩ := trodAll_nil r1
  obtain rfl : args = #[v0, v1] := by cases args; simp_all
  obtain ⟨rfl, rfl⟩ := trodVars_none hV
  obtain ⟨a0, rfl, rfl, rfl, w0⟩ := open_int Try.underlying3 (hval 0 3 v0 rfl rfl) h0
  obtain ⟨a1, len1, cap1, rfl⟩ := okWide_slice Try.underlying22 (hval 1 22 v1 rfl rfl)
  have k1 := h1
  have lt1 : ∀ x ∈ p1, x.block < W.heap.size := by obtain ⟨m, hm⟩ := k1; exact DataW.trod_lt m _ _ _ hm
  have hsz : (DataW.weightsEach Try.prog [3, 22] [_, d1]).all (· ≤ reachBytes) = true := hsz0
  have hwd : ∀ y ∈ d1.weights Try.prog 22, y ≤ 140737488351232 := by
    intro y hy
    have := List.all_eq_true.1 hsz y (DataW.weights_mem_each (j := 1) (t := 22) rfl rfl y hy)
    have h2 := of_decide_eq_true this
    simpa [reachBytes] using h2
  obtain ⟨fuel, hf⟩ := h1
  obtain ⟨S, hS, hSn⟩ := open_script (n := len1) (c := cap1) hf hwd
  clear hA0 hval0
  refine (walk0 a0 a1 len1 cap1 S W hS hSn (script_nb hf hS hSn)).mono fun e W' ⟨he, hext⟩ => ?_
  subst he
  have bel := hext.below
  exact ⟨_, rfl, _, _, _, [], _, [], hW', trodAll_mk1 (shut_bool Try.underlying4 _), (trodAll_cons_mk (shut_int Try.underlying3 w0) (trodAll_cons_mk (Below.trod laidOut (by kernel_rfl) (of_decide_eq_true (by kernel_rfl)) k1 bel lt1) trodAll_mk0)), rfl, bel.frame _, fun h => by cases h⟩

theorem over : Rows.runsPlaysRow.holds Try.pinned (OpenSpec.ofChange Rows.runsPlaysSpec) :=
  OpenClaim.holds_of_wide 3 Try.f3 rfl rfl rfl rfl rfl rfl rfl ⟨rfl, rfl, rfl, rfl, rfl⟩ rfl rfl rfl rfl rfl (by kernel_rfl) Try.func3 (by kernel_rfl)
    (of_decide_eq_true (by kernel_rfl)) (by unfold Func.isWrapper; first | (rw [if_pos (by decide +kernel)]; kernel_rfl) | (rw [if_neg (by decide +kernel)]; exact ⟨rfl, rfl⟩))
    (fun os started H enc _ => lifted os started H enc)

end Go.Proofs.Ytkdgekdacinlhaa.runsPlays

namespace Go.Proofs.Ytkdgekdacinlhaa
theorem runsPlays_holds : Rows.RunsPlaysSaid := runsPlays.over
#print axioms runsPlays_holds
end Go.Proofs.Ytkdgekdacinlhaa
