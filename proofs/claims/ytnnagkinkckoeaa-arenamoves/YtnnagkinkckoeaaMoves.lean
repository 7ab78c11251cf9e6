/-
  Bytes that are moved in an arena stand at their new place as they were, though the two places overlap, and all others stay: the function ArenaMoves answers true and leaves its arguments as they were, for every input; no condition.
-/
import Derived.Test.YtnnagkinkckoeaaArgs
namespace Go.Proofs.Ytnnagkinkckoeaa
open Go.ChangeShapes Go.WideShapes Go.ChangeAt Go.RowKit

theorem perr_bad {l : Nat} {i : Int} {n : Nat} (h : perr l i n ≠ 0) : i < 0 ∨ (l : Int) < i ∨ (l : Int) - i < n := by
  unfold perr at h
  split at h
  · omega
  · split at h
    · omega
    · exact absurd rfl h

theorem ret_yes {a : Bool} (h : a = true) : Ending.returned (.bool a) = .returned (.bool true) := by rw [h]

set_option maxRecDepth 100000 in
set_option maxHeartbeats 1000000 in
theorem movesOf (s : Int) (a : Option Addr) (n c : Nat) (xs : List Int) (t i k : Int) (w : World) (hs : I64 s) (ht : I64 t) (hi : I64 i) (hS : Sl w a xs) (hn : xs.length = n) (hm : n ≤ maxLen) :
    Calls Try.prog 5 #[.int .i64 s, .slice a n c, .int .i64 t, .int .i64 i, .int .i64 k] w (SayPost w (.bool true)) := by
  have K0 := made_any s hs a n c xs w hS hn hm
  clear hS hn hs
  go_enter Try.func5, Try.ntmps5
  go_wp2_with fail
  refine K0.mono ?_
  clear K0
  rintro e w1 ⟨L, rfl, hA1, hL, hE1⟩
  go_wp2_with fail
  refine (awake_any _).mono ?_
  rintro e w2 ⟨rfl, hE2⟩
  have hA2 := hA1.keep hE2 (by simp) (by simp)
  have HE2 : Hid (Ext [] w w2) := hE1.trans hE2
  have hlt := hA1.row.lt
  clear hA1 hE1 hE2
  go_wp2_with fail
  refine met (size_any w2 _ _ _ hA2) ?_
  go_wp2_with fail
  refine (bytes_ok 0 L.length _ _ w2 L hA2 (by omega)).mono ?_
  rw [cut_all]
  rintro e w3 ⟨rfl, hR3, hE3⟩
  have hA3 := hA2.keep hE3 (by simp) (by simp)
  have HE3 : Hid (Ext [] w w3) := HE2.out.trans hE3
  have hlt3 := hR3.lt
  have hlt2 := hA2.row.lt
  by_cases he : perr L.length i k = 0
  · obtain ⟨F, N, rfl, rfl, hF⟩ := perr_ok he
    go_wp2_with fail
    refine (bytes_ok F N _ _ w3 L hA3 hF).mono ?_
    rintro e w4 ⟨rfl, hR4, hE4⟩
    have hA4 := hA3.keep hE4 (by simp) (by simp)
    have hR34 := hR3.keep hE4 (by simp)
    have HE4 : Hid (Ext [] w w4) := HE3.out.trans hE4
    have hlt4 := hR4.lt
    clear hR3 hE3 HE2 hA3 hA2
    by_cases he2 : perr L.length t N = 0
    · obtain ⟨T, _, rfl, hNN, hT⟩ := perr_ok he2
      obtain rfl := Int.ofNat_inj.1 hNN
      have K1 := move_ok T F N _ _ w4 L hA4 hF hT
      obtain ⟨L', hL'⟩ : ∃ L', put L T (fun j => (cut L F N).getD j 0) N = L' := ⟨_, rfl⟩
      rw [hL'] at K1
      have hl' : L'.length = L.length := by rw [← hL']; exact length_put _ _ _ _
      have HR : Hid (∀ k, k < L.length → (k < T ∨ T + N ≤ k) → L.getD k 0 = L'.getD k 0) := by
        intro k hk ho
        rw [← hL', getD_put L T _ N hT, if_neg (by omega)]
      have HC : Hid (cut L' T N = cut L F N) := by
        apply ext_getD (by rw [length_cut, length_cut])
        intro j hj
        rw [length_cut] at hj
        rw [getD_cut _ _ _ _ hj, ← hL', getD_put L T _ N hT, if_pos (by omega), show T + j - T = j by omega]
      clear hL' hNN he he2
      go_wp2_with fail
      refine K1.mono ?_
      clear K1
      rintro e w5 ⟨rfl, hA5, hE5⟩
      have hR35 : Row w5 w2.heap.size L := hR34.keep hE5 (by simp; omega)
      have hR45 : Row w5 w3.heap.size (cut L F N) := hR4.keep hE5 (by simp; omega)
      have HE5 : Hid (Ext [] w w5) := ((HE4.out.mono (by simp)).trans hE5).drop (by simp)
      have K5 := size_any w5 _ _ _ hA5
      have K6 := bytes_ok 0 L'.length _ _ w5 L' hA5 (by omega)
      rw [cut_all] at K6
      rw [hl'] at K5 K6
      go_wp2_with fail
      refine met K5 ?_
      go_wp2_with fail
      refine K6.mono ?_
      clear K5 K6
      rintro e w6 ⟨rfl, hR6, hE6⟩
      have hA6 := hA5.keep hE6 (by simp) (by simp)
      have HE6 : Hid (Ext [] w w6) := HE5.out.trans hE6
      have hR36 := hR35.keep hE6 (by simp)
      have hR46 := hR45.keep hE6 (by simp)
      have hok := hA4.ok
      have K7 := bytes_ok T N _ _ w6 L' hA6 (by omega)
      rw [HC.out] at K7
      clear hR34 hR4 hE4 hA4 hE5 hA5 hR35 hR45 hE6
      go_wp2_with fail
      refine K7.mono ?_
      clear K7
      rintro e w7 ⟨rfl, hR7, hE7⟩
      have K8 := same_true (some ⟨w3.heap.size, 0, none⟩) (some ⟨w6.heap.size, 0, none⟩) N N N _ w7 ((hR46.keep hE7 (by simp)).sl (bts_cut hok F N)) (hR7.sl (bts_cut hok F N)) (length_cut _ _ _) (by unfold maxLen; omega)
      go_wp2_with fail
      refine K8.mono ?_
      clear K8
      rintro e w8 ⟨rfl, hE8⟩
      have hR38 := (hR36.keep hE7 (by simp)).keep hE8 (by simp)
      have hR68 := (hR6.keep hE7 (by simp)).keep hE8 (by simp)
      have HE8 : Hid (Ext [] w w8) := (HE6.out.trans hE7).trans hE8
      have hc3 : Hid (∀ k, k < L.length → w8.cell? ⟨w2.heap.size, k, none⟩ = some (.int .u8 (L.getD k 0))) := fun k hk => hR38.cell k hk
      have hc5 : Hid (∀ k, k < L.length → w8.cell? ⟨w5.heap.size, k, none⟩ = some (.int .u8 (L'.getD k 0))) := fun k hk => hR68.cell k (by omega)
      clear hR38 hR68 hR7 hE7 hE8 hR6 hR36 hR46 hA6 HC hok
      generalize hl : L.length = l at *
      clear hl
      go_wp2_with fail
      go_loopw [21] (fun q wr => ∃ k m : Nat, q = .int .i64 k ∧ k ≤ l ∧ wr = w8.drewN m) (fun q _ => (l - (intOf q)).toNat)
      case atStart => exact ⟨0, 0, rfl, Nat.zero_le _, rfl⟩
      case round =>
        obtain ⟨k, m, rfl, hk, rfl⟩ := hrel
        by_cases hkl : k < l
        · have hx := hc3.out k hkl
          have hy := hc5.out k hkl
          by_cases g1 : (k : Int) < T
          · rw [← HR.out k hkl (by omega)] at hy
            have d0 : k < T := by omega
            have d1 : decide ((k : Int) < T) = true := decide_eq_true g1
            generalize L.getD k 0 = x at *
            go_wp2
            go_quiet (fail)
            go_wp2
            go_roundw
            case rel => exact ⟨k + 1, _, by go_num, by omega, rfl⟩
            case measure => simp [intOf]; omega
          · by_cases g2 : (T : Int) + N ≤ k
            · rw [← HR.out k hkl (by omega)] at hy
              have d0 : ¬ k < T := by omega
              have d1 : decide ((k : Int) < T) = false := decide_eq_false g1
              have d2 : decide ((T : Int) + N ≤ k) = true := decide_eq_true g2
              generalize L.getD k 0 = x at *
              go_wp2
              go_quiet (fail)
              go_wp2
              go_roundw
              case rel => exact ⟨k + 1, _, by go_num, by omega, rfl⟩
              case measure => simp [intOf]; omega
            · clear hx hy
              have d0 : ¬ k < T := by omega
              have d1 : decide ((k : Int) < T) = false := decide_eq_false g1
              have d2 : decide ((T : Int) + N ≤ k) = false := decide_eq_false g2
              go_wp2
              go_quiet (fail)
              go_wp2
              go_roundw
              case rel => exact ⟨k + 1, _, by go_num, by omega, rfl⟩
              case measure => simp [intOf]; omega
        · go_wp2
          go_ret
          exact ⟨rfl, HE8.out.trans (Ext.drewN _ _ _)⟩
    · have hbad := perr_bad he2
      obtain ⟨E, hE⟩ : ∃ E, perr L.length t N = E := ⟨_, rfl⟩
      have hE0 : E ≠ 0 := by omega
      have K1 := move_err t F N _ _ w4 L hA4 hi ht E (by unfold merr; rw [if_pos he, hE]) hE0
      clear he he2 hE
      go_wp2_with fail
      refine met K1 ?_
      go_wp2_with fail
      refine met (size_any w4 _ _ _ hA4) ?_
      go_wp2_with fail
      refine (bytes_ok 0 L.length _ _ w4 L hA4 (by omega)).mono ?_
      rw [cut_all]
      rintro e w5 ⟨rfl, hR5, hE5⟩
      go_wp2_with fail
      refine (same_true _ _ L.length _ _ L w5 ((hR34.keep hE5 (by simp)).sl hA4.ok) (hR5.sl hA4.ok) rfl (by unfold maxLen; omega)).mono ?_
      rintro e w6 ⟨rfl, hE6⟩
      have K6 := size_any w6 _ _ _ ((hA4.keep hE5 (by simp) (by simp)).keep hE6 (by simp) (by simp))
      have HE6 : Hid (Ext [] w w6) := (HE4.out.trans hE5).trans hE6
      clear hE6 hE5 hR5 hR34 hA4 K1 hE4 hR4 hlt hlt2 hlt3 hlt4
      generalize L.length = l at *
      go_wp2_with (go_at_call 11; refine met K6 ?_)
      all_goals
        go_ret
        refine ⟨?_, HE6.out⟩
        first
          | rfl
          | exact ret_yes (by simp; omega)
  · obtain ⟨E, hE⟩ : ∃ E, perr L.length i k = E := ⟨_, rfl⟩
    have hE0 : E ≠ 0 := by omega
    have K0 := bytes_err i k _ _ w3 L hA3 hi E hE hE0
    have K1 := move_err t i k _ _ w3 L hA3 hi ht E (by unfold merr; rw [if_neg he, hE]) hE0
    clear he hE
    go_wp2_with fail
    refine met K0 ?_
    go_wp2_with fail
    refine met K1 ?_
    go_wp2_with fail
    refine met (size_any w3 _ _ _ hA3) ?_
    go_wp2_with fail
    refine (bytes_ok 0 L.length _ _ w3 L hA3 (by omega)).mono ?_
    rw [cut_all]
    rintro e w5 ⟨rfl, hR5, hE5⟩
    go_wp2_with fail
    refine (same_true _ _ L.length _ _ L w5 ((hR3.keep hE5 (by simp)).sl hA3.ok) (hR5.sl hA3.ok) rfl (by unfold maxLen; omega)).mono ?_
    rintro e w6 ⟨rfl, hE6⟩
    have HE6 : Hid (Ext [] w w6) := (HE3.out.trans hE5).trans hE6
    clear hE6 hE5 hR5 hR3 hA3 hA2 K0 K1 hlt hlt2 hlt3
    generalize L.length = l at *
    go_wp2
    go_ret
    exact ⟨rfl, HE6.out⟩

end Go.Proofs.Ytnnagkinkckoeaa

namespace Go.Proofs.Ytnnagkinkckoeaa.arenaMoves
open Go.ChangeShapes Go.WideShapes Go.ChangeAt Go.RowKit

theorem walk (a0 : Int) (a1 : Option Addr) (len1 cap1 : Nat) (z1 : List Int) (a2 : Int) (a3 : Int) (a4 : Int) (w : World) (w0 : (Lit.int .i64 a0).wf = true) (w1 : IsRow .u8 w a1 len1 cap1 z1) (w2 : (Lit.int .i64 a2).wf = true) (w3 : (Lit.int .i64 a3).wf = true) (_w4 : (Lit.int .i64 a4).wf = true) :
    Calls Try.prog 5 #[.int .i64 a0, .slice a1 len1 cap1, .int .i64 a2, .int .i64 a3, .int .i64 a4] w (SayPost w (.bool true)) :=
  movesOf a0 a1 len1 cap1 _ a2 a3 a4 w (i64_of_wf w0) (i64_of_wf w2) (i64_of_wf w3) w1.sl.1 w1.sl.2.1 w1.sl.2.2

set_option maxRecDepth 100000 in
theorem lifted (os : Os) (started : os.Started) (H : Type) (enc : TypeId × Value → H) :
    ReturnsInHanded {} Try.checked os 5 .any (Rows.arenaMovesSpec.pre6 enc Try.prog Try.f5 Rows.arenaMovesRow.domain false) (Rows.arenaMovesSpec.post enc Try.prog Try.f5 false true false false) := by
  refine returnsInHanded_of_change (C := Try.checked) own started (by kernel_rfl) Try.func5
    (ChangeSpec.witness6 (enc := enc) (C := Try.checked) false ⟨#[], #[.int .i64 0, .slice none 0 0, .int .i64 0, .int .i64 0, .int .i64 0], []⟩ 8 (by kernel_rfl) (by kernel_rfl) (by kernel_rfl) (by kernel_rfl)) ?_
  intro W base args ds gs before hval0 hW hcnd _
  have hval : ∀ (j : Nat) t v, Try.f5.params[j]? = some t → args[j]? = some v → Value.okWide Try.prog W .any base t v := hval0
  have hW' := hW
  obtain ⟨p, q, hA0, hV, rfl, hfz, hnd⟩ := hW
  have hA : DataW.TrodAll enc Try.prog W 0 (fun _ => true) true Try.f5.params.toList args.toList ds p := hA0
  rw [Try.params5] at hA hval
  obtain ⟨v0, vs0, d0, ds0, p0, q0, hargs, rfl, rfl, h0, r0⟩ := trodAll_cons hA
  obtain ⟨v1, vs1, d1, ds1, p1, q1, rfl, rfl, rfl, h1, r1⟩ := trodAll_cons r0
  obtain ⟨v2, vs2, d2, ds2, p2, q2, rfl, rfl, rfl, h2, r2⟩ := trodAll_cons r1
  obtain ⟨v3, vs3, d3, ds3, p3, q3, rfl, rfl, rfl, h3, r3⟩ := trodAll_cons r2
  obtain ⟨v4, vs4, d4, ds4, p4, q4, rfl, rfl, rfl, h4, r4⟩ := trodAll_cons r3
  obtain ⟨rfl, rfl, rfl⟩ := trodAll_nil r4
  obtain rfl : args = #[v0, v1, v2, v3, v4] := by cases args; simp_all
  obtain ⟨rfl, rfl⟩ := trodVars_none hV
  obtain ⟨a0, rfl, rfl, rfl, w0⟩ := open_int Try.underlying3 (hval 0 3 v0 rfl rfl) h0
  obtain ⟨a1, len1, cap1, rfl⟩ := okWide_slice Try.underlying29 (hval 1 29 v1 rfl rfl)
  have k1 := h1
  have lt1 : ∀ x ∈ p1, x.block < W.heap.size := by obtain ⟨m, hm⟩ := k1; exact DataW.trod_lt m _ _ _ hm
  obtain ⟨z1, w1⟩ : ∃ zs, IsRow .u8 W a1 len1 cap1 zs := by
    obtain ⟨fuel, hf⟩ := h1
    rcases open_ints Try.underlying29 Try.underlying5 (by kernel_rfl) hf with ⟨hcs, _⟩ | ⟨x, l, c, zs, hcs, _, hl, hm, hz, _, hcell, hwz⟩
    · simp [Value.cells] at hcs
      obtain ⟨rfl, rfl, rfl⟩ := hcs
      exact ⟨[], .inl ⟨rfl, rfl, rfl, rfl⟩⟩
    · simp [Value.cells] at hcs
      obtain ⟨rfl, rfl, rfl⟩ := hcs
      exact ⟨zs, .inr ⟨_, rfl, hl, hm, by simpa using hz, hcell, hwz⟩⟩
  obtain ⟨a2, rfl, rfl, rfl, w2⟩ := open_int Try.underlying3 (hval 2 3 v2 rfl rfl) h2
  obtain ⟨a3, rfl, rfl, rfl, w3⟩ := open_int Try.underlying3 (hval 3 3 v3 rfl rfl) h3
  obtain ⟨a4, rfl, rfl, rfl, w4⟩ := open_int Try.underlying3 (hval 4 3 v4 rfl rfl) h4
  clear hA0 hval0
  refine (walk a0 a1 len1 cap1 z1 a2 a3 a4 W w0 w1 w2 w3 w4).mono fun e W' ⟨he, hext⟩ => ?_
  subst he
  have bel := hext.below
  exact ⟨_, rfl, _, _, _, [], _, [], hW', trodAll_mk1 (shut_bool Try.underlying4 _), (trodAll_cons_mk (shut_int Try.underlying3 w0) (trodAll_cons_mk (Below.trod laidOut (by kernel_rfl) (of_decide_eq_true (by kernel_rfl)) k1 bel lt1) (trodAll_cons_mk (shut_int Try.underlying3 w2) (trodAll_cons_mk (shut_int Try.underlying3 w3) (trodAll_cons_mk (shut_int Try.underlying3 w4) trodAll_mk0))))), rfl, bel.frame _, fun h => by cases h⟩

theorem over : Rows.arenaMovesRow.holds Try.pinned (OpenSpec.ofChange Rows.arenaMovesSpec) :=
  OpenClaim.holds_of_wide 5 Try.f5 rfl rfl rfl rfl rfl rfl rfl ⟨rfl, rfl, rfl, rfl, rfl⟩ rfl rfl rfl rfl rfl (by kernel_rfl) Try.func5 (by kernel_rfl)
    (of_decide_eq_true (by kernel_rfl)) (by unfold Func.isWrapper; first | (rw [if_pos (by decide +kernel)]; kernel_rfl) | (rw [if_neg (by decide +kernel)]; exact ⟨rfl, rfl⟩))
    (fun os started H enc _ => lifted os started H enc)

end Go.Proofs.Ytnnagkinkckoeaa.arenaMoves

namespace Go.Proofs.Ytnnagkinkckoeaa
theorem arenaMoves_holds : Rows.ArenaMovesSaid := arenaMoves.over
#print axioms arenaMoves_holds
end Go.Proofs.Ytnnagkinkckoeaa
