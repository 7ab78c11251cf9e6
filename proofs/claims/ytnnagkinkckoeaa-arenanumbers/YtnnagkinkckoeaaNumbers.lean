/-
  A number that is stored in an arena is loaded again, cut to its bytes; it is its two halves, the lower one first; no byte beside it differs: the function ArenaNumbers answers true and leaves its arguments as they were, for every input; no condition.
-/
import Derived.Test.YtnnagkinkckoeaaArgs
namespace Go.Proofs.Ytnnagkinkckoeaa
open Go.ChangeShapes Go.WideShapes Go.ChangeAt Go.RowKit

theorem nerr_bad {l : Nat} {i n : Int} (h : nerr l i n ≠ 0) : n ≠ 1 ∧ n ≠ 2 ∧ n ≠ 4 ∧ n ≠ 8 ∨ i < 0 ∨ (l : Int) < i ∨ (l : Int) - i < n := by
  unfold nerr at h
  split at h
  · unfold perr at h
    split at h
    · omega
    · split at h
      · omega
      · exact absurd rfl h
  · omega

theorem or_above (s b : Int) (j : Nat) (h0 : 0 ≤ s) (h1 : s < 2 ^ j) (h2 : 0 ≤ b) (h3 : b * 2 ^ j < 18446744073709551616) (h4 : s < 18446744073709551616) :
    bits .or .u64 s (IntKind.u64.wrap (b * 2 ^ j)) = s + b * 2 ^ j := by
  have hp : (0 : Int) < 2 ^ j := Int.pow_pos (by omega)
  have m0 : 0 ≤ b * 2 ^ j := Int.mul_nonneg h2 (by omega)
  have hw : IntKind.u64.wrap (b * 2 ^ j) = b * 2 ^ j := by rw [IntKind.wrap_u64]; omega
  rw [hw, u64_or _ _ h0 h4 m0 h3]
  have e1 : (b * 2 ^ j).toNat = b.toNat * 2 ^ j := by
    rw [Int.toNat_mul h2 (by omega)]; congr 1
  have e2 : s.toNat < 2 ^ j := by
    have : ((2 ^ j : Nat) : Int) = 2 ^ j := by simp
    omega
  rw [e1, Nat.or_comm, nat_join j _ _ (Nat.mul_mod_left _ _) e2]
  rw [← e1]; omega

theorem numTo_add (f : Nat → Int) (a : Nat) : ∀ b, numTo f (a + b) = numTo f a + numTo (fun j => f (a + j)) b * 2 ^ (8 * a)
  | 0 => by simp [numTo]
  | b + 1 => by
    rw [← Nat.add_assoc, numTo, numTo_add f a b, numTo, Int.add_mul, Int.add_assoc]
    congr 2
    rw [Int.mul_assoc, ← Int.pow_add]
    congr 2; omega

theorem numAt_halves (L : List Int) (i m : Nat) : numAt L i (m + m) = numAt L i m + numAt L (i + m) m * 2 ^ (8 * m) := by
  unfold numAt
  rw [numTo_add]
  congr 2
  exact numTo_cong m fun j _ => by rw [Nat.add_assoc]

theorem numAt_put (L : List Int) (i n : Nat) (v : Int) (h : i + n ≤ L.length) : numAt (put L i (byteOf v) n) i n = v % 2 ^ (8 * n) := by
  rw [← numTo_bytes v n]
  refine numTo_cong n fun j hj => ?_
  rw [getD_put L i _ n h, if_pos (by omega), show i + j - i = j by omega]; rfl

theorem and_mask (v : Int) (hv : 0 ≤ v ∧ v < 18446744073709551616) (n : Nat) (hn : n < 8) : bits .and .u64 v (IntKind.u64.wrap (IntKind.u64.wrap (2 ^ (8 * n)) - 1)) = v % 2 ^ (8 * n) := by
  have hw : IntKind.u64.wrap (IntKind.u64.wrap (2 ^ (8 * n)) - 1) = ((2 ^ (8 * n) - 1 : Nat) : Int) := by
    have : n = 0 ∨ n = 1 ∨ n = 2 ∨ n = 3 ∨ n = 4 ∨ n = 5 ∨ n = 6 ∨ n = 7 := by omega
    rcases this with h | h | h | h | h | h | h | h <;> subst h <;> decide
  have hle : (2 ^ (8 * n) : Nat) ≤ 72057594037927936 := by
    have : n = 0 ∨ n = 1 ∨ n = 2 ∨ n = 3 ∨ n = 4 ∨ n = 5 ∨ n = 6 ∨ n = 7 := by omega
    rcases this with h | h | h | h | h | h | h | h <;> subst h <;> decide
  obtain ⟨V, rfl⟩ : ∃ V : Nat, v = V := ⟨v.toNat, by omega⟩
  rw [hw, u64_and_nat V _ (by omega) (by omega), Nat.and_two_pow_sub_one_eq_mod]
  simp

theorem ret_bool {a b : Bool} (h : a = b) : Ending.returned (.bool a) = .returned (.bool b) := by rw [h]

set_option maxRecDepth 100000 in
set_option maxHeartbeats 1000000 in
theorem walkOf (s : Int) (a : Option Addr) (n c : Nat) (xs : List Int) (i k v : Int) (w : World) (hs : I64 s) (hi : I64 i) (hk : I64 k) (hv : 0 ≤ v ∧ v < 18446744073709551616) (hS : Sl w a xs) (hn : xs.length = n) (hm : n ≤ maxLen) :
    Calls Try.prog 4 #[.int .i64 s, .slice a n c, .int .i64 i, .int .i64 k, .int .u64 v] w (SayPost w (.bool true)) := by
  have K0 := made_any s hs a n c xs w hS hn hm
  clear hS hn hs
  go_enter Try.func4, Try.ntmps4
  go_wp2_with fail
  refine K0.mono ?_
  clear K0
  rintro e w1 ⟨L, rfl, hA1, hL, hE1⟩
  go_wp2_with fail
  refine (awake_any _).mono ?_
  rintro e w2 ⟨rfl, hE2⟩
  have hA2 := hA1.keep hE2 (by simp) (by simp)
  have HE2 : Hid (Ext [] w w2) := hE1.trans hE2
  have hlt := hA1.row.lt
  clear hA1 hE1 hE2
  go_wp2_with fail
  refine met (size_any w2 _ _ _ hA2) ?_
  go_wp2_with fail
  refine (bytes_ok 0 L.length _ _ w2 L hA2 (by omega)).mono ?_
  rw [cut_all]
  rintro e w3 ⟨rfl, hR3, hE3⟩
  have hA3 := hA2.keep hE3 (by simp) (by simp)
  have HE3 : Hid (Ext [] w w3) := HE2.out.trans hE3
  have hlt3 := hR3.lt
  have hlt2 := hA2.row.lt
  by_cases he : nerr L.length i k = 0
  · obtain ⟨I, N, rfl, rfl, hb, hN⟩ := nerr_ok he
    have K1 := store_ok I N v hv _ _ w3 L hA3 hb hN
    clear he hi hk
    go_wp2_with fail
    refine K1.mono ?_
    rintro e w4 ⟨rfl, hA4, hE4⟩
    have hl4 : (put L I (byteOf v) N).length = L.length := length_put _ _ _ _
    have hS4 := size_any w4 _ _ _ hA4
    rw [hl4] at hS4
    go_wp2_with fail
    refine met hS4 ?_
    go_wp2_with fail
    have hB4 := bytes_ok 0 (put L I (byteOf v) N).length _ _ w4 _ hA4 (by omega)
    rw [cut_all, hl4] at hB4
    refine hB4.mono ?_
    rintro e w5 ⟨rfl, hR5, hE5⟩
    have hA5 := hA4.keep hE5 (by simp) (by simp)
    have hR3' : Row w5 w2.heap.size L := (hR3.keep hE4 (by simp; omega)).keep hE5 (by simp)
    have HE5 : Hid (Ext [] w w5) := ((HE3.out.mono (by simp)).trans hE4 |>.trans (hE5.mono (by simp))).drop (by simp)
    clear hS4 hB4 hE5 hE4 hR3 hA3 K1 hA2 hE3 hlt hlt2 hlt3 hA4 HE2 HE3
    obtain ⟨L', hL'⟩ : ∃ L', put L I (byteOf v) N = L' := ⟨_, rfl⟩
    have HL' : Hid (put L I (byteOf v) N = L') := hL'
    have HX : Hid (numAt L' I N = v % 2 ^ (8 * N)) := by rw [← hL']; exact numAt_put L I N v hb
    rw [hL'] at hl4 hR5 hA5
    clear hL'
    have K6 := load_ok I N _ _ w5 L' hA5 (by rw [hl4]; exact hb) hN
    rw [HX.out] at K6
    have HR : Hid (∀ k, k < L.length → (k < I ∨ I + N ≤ k) → L.getD k 0 = L'.getD k 0) := by
      intro k hk ho
      rw [← HL'.out, getD_put L I _ N hb, if_neg (by omega)]
    have HA5 : Hid (Ar w5 (w.heap.size + 1) w.heap.size L') := hA5
    have hc3 : Hid (∀ k, k < L.length → w5.cell? ⟨w2.heap.size, k, none⟩ = some (.int .u8 (L.getD k 0))) := fun k hk => hR3'.cell k hk
    have hc5 : Hid (∀ k, k < L.length → w5.cell? ⟨w4.heap.size, k, none⟩ = some (.int .u8 (L'.getD k 0))) := fun k hk => hR5.cell k (by omega)
    have HH : Hid (∀ M, N = M + M → bits .or .u64 (numAt L' I M) (IntKind.u64.wrap (numAt L' (I + M) M * 2 ^ (4 * N))) = v % 2 ^ (8 * N)) := by
      intro M hM
      have b1 := numAt_bd hA5.ok I M
      have b2 := numAt_bd hA5.ok (I + M) M
      have hM4 : M = 1 ∨ M = 2 ∨ M = 4 := by omega
      rw [show 4 * N = 8 * M by omega, or_above _ _ _ b1.1 b1.2 b2.1, ← numAt_halves, ← hM, HX.out]
      · rcases hM4 with rfl | rfl | rfl <;> simp at b2 ⊢ <;> omega
      · rcases hM4 with rfl | rfl | rfl <;> simp at b1 ⊢ <;> omega
    clear hR5 hR3' HL' HX
    generalize hl : L.length = l at *
    clear hl
    go_wp2_with fail
    refine met K6 ?_
    clear K6
    have hX8 : N = 8 → v % 2 ^ (8 * N) = v := by rintro rfl; exact Int.emod_eq_of_lt hv.1 (by omega)
    have hand : N < 8 → bits .and .u64 v (IntKind.u64.wrap (IntKind.u64.wrap (2 ^ (8 * N)) - 1)) = v % 2 ^ (8 * N) := and_mask v hv N
    generalize v % 2 ^ (8 * N) = X at *
    by_cases h1 : 1 < N
    · obtain ⟨M, hM, hM4⟩ : ∃ M, N = M + M ∧ (M = 1 ∨ M = 2 ∨ M = 4 ∨ M = 8) := by
        rcases hN with h | h | h | h
        · omega
        · exact ⟨1, by omega, by omega⟩
        · exact ⟨2, by omega, by omega⟩
        · exact ⟨4, by omega, by omega⟩
      have hor := HH.out M hM
      have K7 := load_ok I M _ _ w5 L' hA5 (by omega) hM4
      have K8 := load_ok (I + M) M _ _ w5 L' hA5 (by omega) hM4
      generalize numAt L' I M = A at *
      generalize numAt L' (I + M) M = B at *
      have eM : ((M : Nat) : Int) = (N : Int) / 2 := by omega
      rw [eM] at K7 K8
      rw [show ((I + M : Nat) : Int) = (I : Int) + (N : Int) / 2 by omega] at K8
      clear HH hM eM hM4
      by_cases h8 : N < 8
      · have hand' := hand h8
        clear hand hX8 hN
        go_wp2_with fail
        refine met K7 ?_
        clear K7
        go_wp2_with fail
        refine met K8 ?_
        clear K8
        go_wp2_with fail
        go_loopw [23] (fun q wr => ∃ k m : Nat, q = .int .i64 k ∧ k ≤ l ∧ wr = w5.drewN m) (fun q _ => (l - (intOf q)).toNat)
        case atStart => exact ⟨0, 0, rfl, Nat.zero_le _, rfl⟩
        case round =>
          obtain ⟨k, m, rfl, hk, rfl⟩ := hrel
          by_cases hkl : k < l
          · have hx := hc3.out k hkl
            have hy := hc5.out k hkl
            by_cases g1 : (k : Int) < I
            · rw [← HR.out k hkl (by omega)] at hy
              have d0 : k < I := by omega
              have d1 : decide ((k : Int) < I) = true := decide_eq_true g1
              generalize L.getD k 0 = x at *
              go_wp2
              go_quiet (fail)
              go_wp2
              go_roundw
              case rel => exact ⟨k + 1, _, by go_num, by omega, rfl⟩
              case measure => simp [intOf]; omega
            · by_cases g2 : (I : Int) + N ≤ k
              · rw [← HR.out k hkl (by omega)] at hy
                have d0 : ¬ k < I := by omega
                have d1 : decide ((k : Int) < I) = false := decide_eq_false g1
                have d2 : decide ((I : Int) + N ≤ k) = true := decide_eq_true g2
                generalize L.getD k 0 = x at *
                go_wp2
                go_quiet (fail)
                go_wp2
                go_roundw
                case rel => exact ⟨k + 1, _, by go_num, by omega, rfl⟩
                case measure => simp [intOf]; omega
              · clear hx hy
                have d0 : ¬ k < I := by omega
                have d1 : decide ((k : Int) < I) = false := decide_eq_false g1
                have d2 : decide ((I : Int) + N ≤ k) = false := decide_eq_false g2
                go_wp2
                go_quiet (fail)
                go_wp2
                go_roundw
                case rel => exact ⟨k + 1, _, by go_num, by omega, rfl⟩
                case measure => simp [intOf]; omega
          · go_wp2
            go_ret
            exact ⟨rfl, HE5.out.trans (Ext.drewN _ _ _)⟩
      · have hX := hX8 (by omega)
        have hN8 : N ≤ 8 := by omega
        clear hand hX8 hN
        subst hX
        go_wp2_with fail
        refine met K7 ?_
        clear K7
        go_wp2_with fail
        refine met K8 ?_
        clear K8
        go_wp2_with fail
        go_loopw [23] (fun q wr => ∃ k m : Nat, q = .int .i64 k ∧ k ≤ l ∧ wr = w5.drewN m) (fun q _ => (l - (intOf q)).toNat)
        case atStart => exact ⟨0, 0, rfl, Nat.zero_le _, rfl⟩
        case round =>
          obtain ⟨k, m, rfl, hk, rfl⟩ := hrel
          by_cases hkl : k < l
          · have hx := hc3.out k hkl
            have hy := hc5.out k hkl
            by_cases g1 : (k : Int) < I
            · rw [← HR.out k hkl (by omega)] at hy
              have d0 : k < I := by omega
              have d1 : decide ((k : Int) < I) = true := decide_eq_true g1
              generalize L.getD k 0 = x at *
              go_wp2
              go_quiet (fail)
              go_wp2
              go_roundw
              case rel => exact ⟨k + 1, _, by go_num, by omega, rfl⟩
              case measure => simp [intOf]; omega
            · by_cases g2 : (I : Int) + N ≤ k
              · rw [← HR.out k hkl (by omega)] at hy
                have d0 : ¬ k < I := by omega
                have d1 : decide ((k : Int) < I) = false := decide_eq_false g1
                have d2 : decide ((I : Int) + N ≤ k) = true := decide_eq_true g2
                generalize L.getD k 0 = x at *
                go_wp2
                go_quiet (fail)
                go_wp2
                go_roundw
                case rel => exact ⟨k + 1, _, by go_num, by omega, rfl⟩
                case measure => simp [intOf]; omega
              · clear hx hy
                have d0 : ¬ k < I := by omega
                have d1 : decide ((k : Int) < I) = false := decide_eq_false g1
                have d2 : decide ((I : Int) + N ≤ k) = false := decide_eq_false g2
                go_wp2
                go_quiet (fail)
                go_wp2
                go_roundw
                case rel => exact ⟨k + 1, _, by go_num, by omega, rfl⟩
                case measure => simp [intOf]; omega
          · go_wp2
            go_ret
            exact ⟨rfl, HE5.out.trans (Ext.drewN _ _ _)⟩
    · have hand' := hand (by omega)
      have h1' : ¬ (1 : Int) < N := by omega
      have d3 : decide ((1 : Int) < N) = false := decide_eq_false h1'
      have h8 : N < 8 := by omega
      have d4 : decide ((N : Int) < 8) = true := decide_eq_true (by omega)
      clear hand hX8 HH hN
      go_wp2_with fail
      go_loopw [23] (fun q wr => ∃ k m : Nat, q = .int .i64 k ∧ k ≤ l ∧ wr = w5.drewN m) (fun q _ => (l - (intOf q)).toNat)
      case atStart => exact ⟨0, 0, rfl, Nat.zero_le _, rfl⟩
      case round =>
        obtain ⟨k, m, rfl, hk, rfl⟩ := hrel
        by_cases hkl : k < l
        · have hx := hc3.out k hkl
          have hy := hc5.out k hkl
          by_cases g1 : (k : Int) < I
          · rw [← HR.out k hkl (by omega)] at hy
            have d0 : k < I := by omega
            have d1 : decide ((k : Int) < I) = true := decide_eq_true g1
            generalize L.getD k 0 = x at *
            go_wp2
            go_quiet (fail)
            go_wp2
            go_roundw
            case rel => exact ⟨k + 1, _, by go_num, by omega, rfl⟩
            case measure => simp [intOf]; omega
          · by_cases g2 : (I : Int) + N ≤ k
            · rw [← HR.out k hkl (by omega)] at hy
              have d0 : ¬ k < I := by omega
              have d1 : decide ((k : Int) < I) = false := decide_eq_false g1
              have d2 : decide ((I : Int) + N ≤ k) = true := decide_eq_true g2
              generalize L.getD k 0 = x at *
              go_wp2
              go_quiet (fail)
              go_wp2
              go_roundw
              case rel => exact ⟨k + 1, _, by go_num, by omega, rfl⟩
              case measure => simp [intOf]; omega
            · clear hx hy
              have d0 : ¬ k < I := by omega
              have d1 : decide ((k : Int) < I) = false := decide_eq_false g1
              have d2 : decide ((I : Int) + N ≤ k) = false := decide_eq_false g2
              go_wp2
              go_quiet (fail)
              go_wp2
              go_roundw
              case rel => exact ⟨k + 1, _, by go_num, by omega, rfl⟩
              case measure => simp [intOf]; omega
        · go_wp2
          go_ret
          exact ⟨rfl, HE5.out.trans (Ext.drewN _ _ _)⟩
  · have hbad := nerr_bad he
    obtain ⟨E, hE⟩ : ∃ E, nerr L.length i k = E := ⟨_, rfl⟩
    have K1 := store_err i k v _ _ w3 L hA3 hi E hE (by omega)
    have hE0 : E ≠ 0 := by omega
    clear he hE
    go_wp2_with fail
    refine met K1 ?_
    go_wp2_with fail
    refine met (size_any w3 _ _ _ hA3) ?_
    go_wp2_with fail
    refine (bytes_ok 0 L.length _ _ w3 L hA3 (by omega)).mono ?_
    rw [cut_all]
    rintro e w4 ⟨rfl, hR4, hE4⟩
    go_wp2_with fail
    refine (same_true _ _ L.length _ _ L w4 ((hR3.keep hE4 (by simp)).sl hA3.ok) (hR4.sl hA3.ok) rfl (by unfold maxLen; omega)).mono ?_
    rintro e w5 ⟨rfl, hE5⟩
    have K5 := size_any w5 _ _ _ ((hA3.keep hE4 (by simp) (by simp)).keep hE5 (by simp) (by simp))
    have HE5 : Hid (Ext [] w w5) := (HE3.out.trans hE4).trans hE5
    clear hE5 hE4 hR4 hR3 hA3 K1 hA2 hE3 hlt hlt2 hlt3
    generalize L.length = l at *
    go_wp2_with (go_at_call 11; refine met K5 ?_)
    all_goals
      go_ret
      refine ⟨?_, HE5.out⟩
      first
        | rfl
        | exact ret_bool (by simp; omega)

end Go.Proofs.Ytnnagkinkckoeaa

namespace Go.Proofs.Ytnnagkinkckoeaa.arenaNumbers
open Go.ChangeShapes Go.WideShapes Go.ChangeAt Go.RowKit

theorem walk (a0 : Int) (a1 : Option Addr) (len1 cap1 : Nat) (z1 : List Int) (a2 : Int) (a3 : Int) (a4 : Int) (w : World) (w0 : (Lit.int .i64 a0).wf = true) (w1 : IsRow .u8 w a1 len1 cap1 z1) (w2 : (Lit.int .i64 a2).wf = true) (w3 : (Lit.int .i64 a3).wf = true) (w4 : (Lit.int .u64 a4).wf = true) :
    Calls Try.prog 4 #[.int .i64 a0, .slice a1 len1 cap1, .int .i64 a2, .int .i64 a3, .int .u64 a4] w (SayPost w (.bool true)) :=
  walkOf a0 a1 len1 cap1 _ a2 a3 a4 w (i64_of_wf w0) (i64_of_wf w2) (i64_of_wf w3) (u64_of_wf w4) w1.sl.1 w1.sl.2.1 w1.sl.2.2

set_option maxRecDepth 100000 in
theorem lifted (os : Os) (started : os.Started) (H : Type) (enc : TypeId × Value → H) :
    ReturnsInHanded {} Try.checked os 4 .any (Rows.arenaNumbersSpec.pre6 enc Try.prog Try.f4 Rows.arenaNumbersRow.domain false) (Rows.arenaNumbersSpec.post enc Try.prog Try.f4 false true false false) := by
  refine returnsInHanded_of_change (C := Try.checked) own started (by kernel_rfl) Try.func4
    (ChangeSpec.witness6 (enc := enc) (C := Try.checked) false ⟨#[], #[.int .i64 0, .slice none 0 0, .int .i64 0, .int .i64 0, .int .u64 0], []⟩ 8 (by kernel_rfl) (by kernel_rfl) (by kernel_rfl) (by kernel_rfl)) ?_
  intro W base args ds gs before hval0 hW hcnd _
  have hval : ∀ (j : Nat) t v, Try.f4.params[j]? = some t → args[j]? = some v → Value.okWide Try.prog W .any base t v := hval0
  have hW' := hW
  obtain ⟨p, q, hA0, hV, rfl, hfz, hnd⟩ := hW
  have hA : DataW.TrodAll enc Try.prog W 0 (fun _ => true) true Try.f4.params.toList args.toList ds p := hA0
  rw [Try.params4] at hA hval
  obtain ⟨v0, vs0, d0, ds0, p0, q0, hargs, rfl, rfl, h0, r0⟩ := trodAll_cons hA
  obtain ⟨v1, vs1, d1, ds1, p1, q1, rfl, rfl, rfl, h1, r1⟩ := trodAll_cons r0
  obtain ⟨v2, vs2, d2, ds2, p2, q2, rfl, rfl, rfl, h2, r2⟩ := trodAll_cons r1
  obtain ⟨v3, vs3, d3, ds3, p3, q3, rfl, rfl, rfl, h3, r3⟩ := trodAll_cons r2
  obtain ⟨v4, vs4, d4, ds4, p4, q4, rfl, rfl, rfl, h4, r4⟩ := trodAll_cons r3
  obtain ⟨rfl, rfl, rfl⟩ := trodAll_nil r4
  obtain rfl : args = #[v0, v1, v2, v3, v4] := by cases args; simp_all
  obtain ⟨rfl, rfl⟩ := trodVars_none hV
  obtain ⟨a0, rfl, rfl, rfl, w0⟩ := open_int Try.underlying3 (hval 0 3 v0 rfl rfl) h0
  obtain ⟨a1, len1, cap1, rfl⟩ := okWide_slice Try.underlying29 (hval 1 29 v1 rfl rfl)
  have k1 := h1
  have lt1 : ∀ x ∈ p1, x.block < W.heap.size := by obtain ⟨m, hm⟩ := k1; exact DataW.trod_lt m _ _ _ hm
  obtain ⟨z1, w1⟩ : ∃ zs, IsRow .u8 W a1 len1 cap1 zs := by
    obtain ⟨fuel, hf⟩ := h1
    rcases open_ints Try.underlying29 Try.underlying5 (by kernel_rfl) hf with ⟨hcs, _⟩ | ⟨x, l, c, zs, hcs, _, hl, hm, hz, _, hcell, hwz⟩
    · simp [Value.cells] at hcs
      obtain ⟨rfl, rfl, rfl⟩ := hcs
      exact ⟨[], .inl ⟨rfl, rfl, rfl, rfl⟩⟩
    · simp [Value.cells] at hcs
      obtain ⟨rfl, rfl, rfl⟩ := hcs
      exact ⟨zs, .inr ⟨_, rfl, hl, hm, by simpa using hz, hcell, hwz⟩⟩
  obtain ⟨a2, rfl, rfl, rfl, w2⟩ := open_int Try.underlying3 (hval 2 3 v2 rfl rfl) h2
  obtain ⟨a3, rfl, rfl, rfl, w3⟩ := open_int Try.underlying3 (hval 3 3 v3 rfl rfl) h3
  obtain ⟨a4, rfl, rfl, rfl, w4⟩ := open_int Try.underlying31 (hval 4 31 v4 rfl rfl) h4
  clear hA0 hval0
  refine (walk a0 a1 len1 cap1 z1 a2 a3 a4 W w0 w1 w2 w3 w4).mono fun e W' ⟨he, hext⟩ => ?_
  subst he
  have bel := hext.below
  exact ⟨_, rfl, _, _, _, [], _, [], hW', trodAll_mk1 (shut_bool Try.underlying4 _), (trodAll_cons_mk (shut_int Try.underlying3 w0) (trodAll_cons_mk (Below.trod laidOut (by kernel_rfl) (of_decide_eq_true (by kernel_rfl)) k1 bel lt1) (trodAll_cons_mk (shut_int Try.underlying3 w2) (trodAll_cons_mk (shut_int Try.underlying3 w3) (trodAll_cons_mk (shut_int Try.underlying31 w4) trodAll_mk0))))), rfl, bel.frame _, fun h => by cases h⟩

theorem over : Rows.arenaNumbersRow.holds Try.pinned (OpenSpec.ofChange Rows.arenaNumbersSpec) :=
  OpenClaim.holds_of_wide 4 Try.f4 rfl rfl rfl rfl rfl rfl rfl ⟨rfl, rfl, rfl, rfl, rfl⟩ rfl rfl rfl rfl rfl (by kernel_rfl) Try.func4 (by kernel_rfl)
    (of_decide_eq_true (by kernel_rfl)) (by unfold Func.isWrapper; first | (rw [if_pos (by decide +kernel)]; kernel_rfl) | (rw [if_neg (by decide +kernel)]; exact ⟨rfl, rfl⟩))
    (fun os started H enc _ => lifted os started H enc)


end Go.Proofs.Ytnnagkinkckoeaa.arenaNumbers

namespace Go.Proofs.Ytnnagkinkckoeaa
theorem arenaNumbers_holds : Rows.ArenaNumbersSaid := arenaNumbers.over
#print axioms arenaNumbers_holds
end Go.Proofs.Ytnnagkinkckoeaa
