/-
  The pages that are taken are the lowest that fit: the function RunsLowest answers true and leaves its arguments as they were, for every number of pages, every script and every n; no condition.
-/
import Derived.Test.YtkdgekdacinlhaaOpen
import Derived.SizedLaws
namespace Go.Proofs.Ytkdgekdacinlhaa
open Go.RowKit

namespace runsLowest

set_option maxRecDepth 100000 in
set_option maxHeartbeats 4000000 in
theorem walk (pages : Int) (a : Option Addr) (n c : Nat) (S : List (Int × Int)) (m : Int) (w : World) (hS : Sc w a S) (hn : S.length = n) :
    Calls Try.prog 8 #[.int .i64 pages, .slice a n c, .int .i64 m] w (SayPost w (.bool true)) := by
  have KG := grown_any pages a n c S w hS hn
  have HI := hid (inv_gr pages S)
  clear hS hn
  generalize grL pages S = L at *
  generalize grP pages = P at *
  go_enter Try.func8, Try.ntmps8
  go_wp2_with fail
  refine KG.mono ?_
  clear KG
  rintro e w1 ⟨p, v, rfl, hR, hp, hv, hE⟩
  have HR := hid hR
  have HV := hid hv
  have HE := hid hE
  clear hR hv hE
  go_wp2_with fail
  refine (awake_any w1).mono ?_
  rintro e w2 ⟨rfl, hE2⟩
  have HR2 := hid (HR.out.keep0 hE2)
  have HE2 := hid (HE.out.trans hE2)
  clear hE2 HR HE
  have hLl : L.length ≤ 1024 := Nat.le_trans HI.out.len HI.out.le
  go_wp2_with fail
  refine (told_any p v L w2 HR2.out hLl).mono ?_
  rintro e w3 ⟨v3, rfl, hL3, hn3, hE3⟩
  have HR3 := hid (HR2.out.keep0 hE3)
  have HE3 := hid (HE2.out.trans hE3)
  have hpl := HR2.out.lt
  have hvl := HR2.out.row.lt
  have HD : Hid (v3.ownBlock ≠ some p ∧ ∀ g, v.ownBlock = some g → v3.ownBlock ≠ some g) :=
    ⟨fun h => by have := hn3 _ h; omega, fun g hg h => by have := hn3 _ h; have := hvl g hg; omega⟩
  have HL3 := hid hL3
  obtain ⟨a3, c3, rfl, _⟩ := hL3.slice
  have KA := alloc_any p m v L w3 HR3.out HI.out
  have HS : Hid (∀ e w4, AlPost w3 p v (alR L m).1 (.tuple #[.int .i64 (alR L m).2.1, .int .i64 (alR L m).2.2]) e w4 → e = .returned (.tuple #[.int .i64 (alR L m).2.1, .int .i64 (alR L m).2.2]) ∧ Lst w4 (.slice a3 L.length c3) L ∧ Ext [] w w4) := fun e w4 h => by
    have h2 := al_own HE3.out hp HV.out h
    obtain ⟨v', he, _, _, hE4⟩ := h2
    exact ⟨he, al_lst h HL3.out HD.out.1 HD.out.2, hE4⟩
  clear hL3 hn3 hE3 hvl
  go_wp2_with fail
  refine KA.mono ?_
  clear KA
  intro e w4 h
  obtain ⟨rfl, hL4, hE4⟩ := HS.out e w4 h
  have HL4 := hid hL4
  have HE4 := hid hE4
  clear h hL4 hE4 HS HR2 HE2 HR3 HE3 HD HL3
  rcases al_cases L m with ⟨er, he0, hal, _, hno⟩ | ⟨i, hi, h1, hu, hmn, hal, hno⟩
  · rw [hal]
    have HNo := hid hno
    have hb1 : (er == 0) = false := by simp [he0]
    have hb2 : (er != 0) = true := by simp [he0]
    clear hal hno he0
    simp only
    go_wp2_with fail
    go_loopw [12] (fun q wr => ∃ k : Nat, q = .int .i64 k ∧ k ≤ L.length ∧ Ext [] w4 wr) (fun q _ => (L.length - (intOf q)).toNat)
    case atStart => exact ⟨0, rfl, Nat.zero_le _, Ext.refl _ _⟩
    case round =>
      obtain ⟨k, rfl, hk, hE⟩ := hrel
      have HE5 := hid hE
      clear hE
      by_cases hlt : k < L.length
      · obtain ⟨g, c', hv, _, _, _, hcs⟩ := (HL4.out.keep0 HE5.out).at_ (by omega)
        simp only [Value.slice.injEq, true_and] at hv
        obtain ⟨rfl, rfl⟩ := hv
        obtain ⟨c0, c1, c2⟩ := hcs k hlt
        have hk2 := HNo.out k hlt
        clear hcs
        generalize rnAt L k = x at *
        cases hu : x.u
        · rw [hu] at c2 hk2
          by_cases hm : 0 < m
          · have hn : ¬ m ≤ (x.n : Int) := by
              rcases hk2 with h | h | h
              · cases h
              · omega
              · omega
            clear hk2 hu
            go_wp2_with fail
            go_roundw
            case rel => exact ⟨k + 1, by go_num, by omega, HE5.out⟩
            case measure => simp [intOf]; omega
          · clear hk2 hu
            go_wp2_with fail
            go_roundw
            case rel => exact ⟨k + 1, by go_num, by omega, HE5.out⟩
            case measure => simp [intOf]; omega
        · rw [hu] at c2
          clear hk2 hu
          go_wp2_with fail
          go_roundw
          case rel => exact ⟨k + 1, by go_num, by omega, HE5.out⟩
          case measure => simp [intOf]; omega
      · go_wp2_with fail
        go_ret
        exact ⟨rfl, HE4.out.trans HE5.out⟩
  · rw [hal]
    have HNo := hid hno
    have HU := hid hu
    clear hal hno hu
    simp only
    have hm : 0 < m := by omega
    go_wp2_with fail
    go_loopw [12] (fun q wr => ∃ k : Nat, q = .int .i64 k ∧ k ≤ i ∧ Ext [] w4 wr) (fun q _ => (L.length - (intOf q)).toNat)
    case atStart => exact ⟨0, rfl, Nat.zero_le _, Ext.refl _ _⟩
    case round =>
      obtain ⟨k, rfl, hk, hE⟩ := hrel
      have HE5 := hid hE
      clear hE
      obtain ⟨g, c', hv, _, _, _, hcs⟩ := (HL4.out.keep0 HE5.out).at_ (by omega)
      simp only [Value.slice.injEq, true_and] at hv
      obtain ⟨rfl, rfl⟩ := hv
      obtain ⟨c0, c1, c2⟩ := hcs k (by omega)
      clear hcs
      by_cases hlt : k < i
      · have hk2 := HNo.out k hlt
        generalize rnAt L k = x at *
        cases hu : x.u
        · rw [hu] at c2 hk2
          have hn : ¬ m ≤ (x.n : Int) := by
            rcases hk2 with h | h
            · cases h
            · omega
          clear hk2 hu
          go_wp2_with fail
          go_roundw
          case rel => exact ⟨k + 1, by go_num, by omega, HE5.out⟩
          case measure => simp [intOf]; omega
        · rw [hu] at c2
          clear hk2 hu
          go_wp2_with fail
          go_roundw
          case rel => exact ⟨k + 1, by go_num, by omega, HE5.out⟩
          case measure => simp [intOf]; omega
      · obtain rfl : k = i := by omega
        have hu := HU.out
        rw [hu] at c2
        clear hu
        generalize rnAt L k = x at *
        go_wp2_with fail
        go_ret
        exact ⟨rfl, HE4.out.trans HE5.out⟩

end runsLowest
end Go.Proofs.Ytkdgekdacinlhaa

namespace Go.Proofs.Ytkdgekdacinlhaa.runsLowest
open Go.ChangeShapes Go.WideShapes Go.ChangeAt Go.RowKit

set_option maxRecDepth 100000 in
theorem lifted (os : Os) (started : os.Started) (H : Type) (enc : TypeId × Value → H) :
    ReturnsInHanded {} Try.checked os 8 .any (Rows.runsLowestSpec.pre6 enc Try.prog Try.f8 Rows.runsLowestRow.domain false) (Rows.runsLowestSpec.post enc Try.prog Try.f8 false true false false) := by
  refine returnsInHanded_of_change_sized (C := Try.checked) own started (by kernel_rfl) Try.func8
    (ChangeSpec.witness6 (enc := enc) (C := Try.checked) false ⟨#[], #[.int .i64 0, .slice none 0 0, .int .i64 0], []⟩ 8 (by kernel_rfl) (by kernel_rfl) (by kernel_rfl) (by kernel_rfl)) ?_
  intro W base args ds gs before hval0 hW hcnd hsz0 _
  have hval : ∀ (j : Nat) t v, Try.f8.params[j]? = some t → args[j]? = some v → Value.okWide Try.prog W .any base t v := hval0
  have hW' := hW
  obtain ⟨p, q, hA0, hV, rfl, hfz, hnd⟩ := hW
  have hA : DataW.TrodAll enc Try.prog W 0 (fun _ => true) true Try.f8.params.toList args.toList ds p := hA0
  rw [Try.params8] at hA hval
  obtain ⟨v0, vs0, d0, ds0, p0, q0, hargs, rfl, rfl, h0, r0⟩ := trodAll_cons hA
  obtain ⟨v1, vs1, d1, ds1, p1, q1, rfl, rfl, rfl, h1, r1⟩ := trodAll_cons r0
  obtain ⟨v2, vs2, d2, ds2, p2, q2, rfl, rfl, rfl, h2, r2⟩ := trodAll_cons r1
  obtain ⟨rfl, rfl, rfl⟩ := trodAll_nil r2
  obtain rfl : args = #[v0, v1, v2] := by cases args; simp_all
  obtain ⟨rfl, rfl⟩ := trodVars_none hV
  obtain ⟨a0, rfl, rfl, rfl, w0⟩ := open_int Try.underlying3 (hval 0 3 v0 rfl rfl) h0
  obtain ⟨a1, len1, cap1, rfl⟩ := okWide_slice Try.underlying22 (hval 1 22 v1 rfl rfl)
  have k1 := h1
  have lt1 : ∀ x ∈ p1, x.block < W.heap.size := by obtain ⟨m, hm⟩ := k1; exact DataW.trod_lt m _ _ _ hm
  obtain ⟨a2, rfl, rfl, rfl, w2⟩ := open_int Try.underlying3 (hval 2 3 v2 rfl rfl) h2
  have hsz : (DataW.weightsEach Try.prog [3, 22, 3] [_, d1, _]).all (· ≤ reachBytes) = true := hsz0
  have hwd : ∀ y ∈ d1.weights Try.prog 22, y ≤ 140737488351232 := by
    intro y hy
    have := List.all_eq_true.1 hsz y (DataW.weights_mem_each (j := 1) (t := 22) rfl rfl y hy)
    have h2 := of_decide_eq_true this
    simpa [reachBytes] using h2
  obtain ⟨fuel, hf⟩ := h1
  obtain ⟨S, hS, hSn⟩ := open_script (n := len1) (c := cap1) hf hwd
  clear hA0 hval0
  refine (walk a0 a1 len1 cap1 S a2 W hS hSn).mono fun e W' ⟨he, hext⟩ => ?_
  subst he
  have bel := hext.below
  exact ⟨_, rfl, _, _, _, [], _, [], hW', trodAll_mk1 (shut_bool Try.underlying4 _), (trodAll_cons_mk (shut_int Try.underlying3 w0) (trodAll_cons_mk (Below.trod laidOut (by kernel_rfl) (of_decide_eq_true (by kernel_rfl)) k1 bel lt1) (trodAll_cons_mk (shut_int Try.underlying3 w2) trodAll_mk0))), rfl, bel.frame _, fun h => by cases h⟩

theorem over : Rows.runsLowestRow.holds Try.pinned (OpenSpec.ofChange Rows.runsLowestSpec) :=
  OpenClaim.holds_of_wide 8 Try.f8 rfl rfl rfl rfl rfl rfl rfl ⟨rfl, rfl, rfl, rfl, rfl⟩ rfl rfl rfl rfl rfl (by kernel_rfl) Try.func8 (by kernel_rfl)
    (of_decide_eq_true (by kernel_rfl)) (by unfold Func.isWrapper; first | (rw [if_pos (by decide +kernel)]; kernel_rfl) | (rw [if_neg (by decide +kernel)]; exact ⟨rfl, rfl⟩))
    (fun os started H enc _ => lifted os started H enc)

end Go.Proofs.Ytkdgekdacinlhaa.runsLowest

namespace Go.Proofs.Ytkdgekdacinlhaa
theorem runsLowest_holds : Rows.RunsLowestSaid := runsLowest.over
#print axioms runsLowest_holds
end Go.Proofs.Ytkdgekdacinlhaa
