/-
  Bytes that are written into an arena are read again, cleared ones are 0, a word's bytes are those of its number, and nothing else differs: the function ArenaWrites answers true and leaves its arguments as they were, for every input; no condition.
-/
import Derived.Test.YtnnagkinkckoeaaOwn
import Derived.SizedLaws
namespace Go.Proofs.Ytnnagkinkckoeaa
open Go.ChangeShapes Go.WideShapes Go.ChangeAt Go.RowKit

theorem perr_len {l : Nat} {i : Int} {n : Nat} (h : perr l i n ≠ 0) : perr l i n = 5 ∧ (i < 0 ∨ (l : Int) < i ∨ (l : Int) - i < n) := by
  unfold perr at h ⊢
  split at h
  · omega
  · split at h
    · rename_i h1 h2
      rw [if_neg h1, if_pos h2]; exact ⟨rfl, by omega⟩
    · exact absurd rfl h

theorem bytes5 : Try.prog.bytesOf 5 = 1 := by kernel_rfl

theorem ret_yes {a : Bool} (h : a = true) : Ending.returned (.bool a) = .returned (.bool true) := by rw [h]

theorem numAt_one (L : List Int) (i : Nat) : numAt L i 1 = L.getD i 0 := by simp [numAt, numTo]

set_option maxRecDepth 100000 in
set_option maxHeartbeats 2000000 in
theorem writesOf (s : Int) (a : Option Addr) (n c : Nat) (xs : List Int) (a2 : Option Addr) (m c2 : Nat) (ys : List Int) (i : Int) (w : World) (hs : I64 s) (hi : I64 i) (hS : Sl w a xs) (hn : xs.length = n) (hm : n ≤ maxLen)
    (hS2 : Sl w a2 ys) (hn2 : ys.length = m) (hm2 : m ≤ 140737488355328) :
    Calls Try.prog 8 #[.int .i64 s, .slice a n c, .slice a2 m c2, .int .i64 i] w (SayPost w (.bool true)) := by
  have K0 := made_any s hs a n c xs w hS hn hm
  have HS2 : Hid (Sl w a2 ys) := hS2
  have HN2 : Hid (ys.length = m) := hn2
  clear hS hn hs hS2 hn2 hm
  go_enter Try.func8, Try.ntmps8
  go_wp2_with fail
  refine K0.mono ?_
  clear K0
  rintro e w1 ⟨L, rfl, hA1, hL, hE1⟩
  go_wp2_with fail
  refine (awake_any _).mono ?_
  rintro e w2 ⟨rfl, hE2⟩
  have hA2 := hA1.keep hE2 (by simp) (by simp)
  have HE2 : Hid (Ext [] w w2) := hE1.trans hE2
  have hlt := hA1.row.lt
  clear hA1 hE1 hE2
  go_wp2_with fail
  refine met (size_any w2 _ _ _ hA2) ?_
  go_wp2_with fail
  refine (bytes_ok 0 L.length _ _ w2 L hA2 (by omega)).mono ?_
  rw [cut_all]
  rintro e w3 ⟨rfl, hR3, hE3⟩
  have hA3 := hA2.keep hE3 (by simp) (by simp)
  have HE3 : Hid (Ext [] w w3) := HE2.out.trans hE3
  have hlt3 := hR3.lt
  have hlt2 := hA2.row.lt
  have K3 := own_any a2 m c2 ys w3 (HS2.out.keep HE3.out (by simp)) HN2.out (by omega)
  go_wp2_with fail
  refine K3.mono ?_
  clear K3
  rintro e w4 ⟨q, qc, rfl, hO4, hE4, hq4⟩
  have hA4 := hA3.keep hE4 (by simp) (by simp)
  have hR34 := hR3.keep hE4 (by simp)
  have HE4 : Hid (Ext [] w w4) := HE3.out.trans hE4
  have hql := hO4.lt
  clear hR3 hE3 HE2 hA3 hA2
  by_cases he : perr L.length i m = 0
  · obtain ⟨I, _, rfl, hmm, hI⟩ := perr_ok he
    obtain rfl := Int.ofNat_inj.1 hmm
    have K4 := write_ok I (some ⟨q, 0, none⟩) m qc ys _ _ w4 L hA4 hO4.sl HN2.out hI
    obtain ⟨L', hL'⟩ : ∃ L', put L I (fun j => ys.getD j 0) m = L' := ⟨_, rfl⟩
    rw [hL'] at K4
    have hl' : L'.length = L.length := by rw [← hL']; exact length_put _ _ _ _
    have HR : Hid (∀ k, k < L.length → (k < I ∨ I + m ≤ k) → L.getD k 0 = L'.getD k 0) := by
      intro k hk ho
      rw [← hL', getD_put L I _ m hI, if_neg (by omega)]
    have HY : Hid (∀ k, k < m → L'.getD (I + k) 0 = ys.getD k 0) := by
      intro k hk
      rw [← hL', getD_put L I _ m hI, if_pos (by omega), show I + k - I = k by omega]
    have HC : Hid (cut L' I m = ys) := by
      apply ext_getD (by rw [length_cut, HN2.out])
      intro j hj
      rw [length_cut] at hj
      rw [getD_cut _ _ _ _ hj, HY.out j hj]
    obtain ⟨L2, hL2⟩ : ∃ L2, put L' I (fun _ => 0) m = L2 := ⟨_, rfl⟩
    have hl2 : L2.length = L.length := by rw [← hL2, length_put]; exact hl'
    have HR2 : Hid (∀ k, k < L.length → (k < I ∨ I + m ≤ k) → L'.getD k 0 = L2.getD k 0) := by
      intro k hk ho
      rw [← hL2, getD_put L' I _ m (by omega), if_neg (by omega)]
    have HZ : Hid (∀ k, k < m → (cut L2 I m).getD k 0 = 0) := by
      intro k hk
      rw [getD_cut _ _ _ _ hk, ← hL2, getD_put L' I _ m (by omega), if_pos (by omega)]
    have HL2 : Hid (put L' I (fun _ => 0) m = L2) := hL2
    clear hL' hmm he hL2
    go_wp2_with fail
    refine K4.mono ?_
    clear K4
    rintro e w5 ⟨rfl, hA5, hE5⟩
    have hR35 : Row w5 w2.heap.size L := hR34.keep hE5 (by simp; omega)
    have HE5 : Hid (Ext [] w w5) := ((HE4.out.mono (by simp)).trans hE5).drop (by simp)
    have K5 := size_any w5 _ _ _ hA5
    have K6 := bytes_ok 0 L'.length _ _ w5 L' hA5 (by omega)
    rw [cut_all] at K6
    rw [hl'] at K5 K6
    go_wp2_with fail
    refine met K5 ?_
    go_wp2_with fail
    refine K6.mono ?_
    clear K5 K6 hR34 hE4 hO4 hA4
    rintro e w6 ⟨rfl, hR6, hE6⟩
    have hA6 := hA5.keep hE6 (by simp) (by simp)
    have HE6 : Hid (Ext [] w w6) := HE5.out.trans hE6
    have hR36 := hR35.keep hE6 (by simp)
    have hlt5 := hA5.row.lt
    have hlt6 := hR6.lt
    have K7 := bytes_ok I m _ _ w6 L' hA6 (by omega)
    rw [HC.out] at K7
    clear hR35 hE5 hA5 hE6
    go_wp2_with fail
    refine K7.mono ?_
    clear K7
    rintro e w7 ⟨rfl, hR7, hE7⟩
    have hA7 := hA6.keep hE7 (by simp) (by simp)
    have HE7 : Hid (Ext [] w w7) := HE6.out.trans hE7
    have hR37 := hR36.keep hE7 (by simp)
    have hR67 := hR6.keep hE7 (by simp)
    have K8 := same_true (some ⟨w6.heap.size, 0, none⟩) a2 m m c2 ys w7 (hR7.sl HS2.out.ok) (HS2.out.keep HE7.out (by simp)) HN2.out (by unfold maxLen; omega)
    clear hR36 hR6 hE7 hR7 hA6
    go_wp2_with fail
    refine K8.mono ?_
    clear K8
    rintro e w8 ⟨rfl, hE8⟩
    have hA8 := hA7.keep hE8 (by simp) (by simp)
    have HE8 : Hid (Ext [] w w8) := HE7.out.trans hE8
    have HA8 : Hid (Ar w8 (w.heap.size + 1) w.heap.size L') := hA8
    have HR38 : Hid (Row w8 w2.heap.size L) := hR37.keep hE8 (by simp)
    have HR68 : Hid (Row w8 w5.heap.size L') := hR67.keep hE8 (by simp)
    clear hA7 hR37 hR67 hE8 hA8
    go_wp2_with fail
    go_loop [16] (fun q => ∃ k : Nat, q = .int .i64 k ∧ k ≤ m) (fun q => (m - (intOf q)).toNat)
    case atStart => exact ⟨0, rfl, Nat.zero_le _⟩
    case round =>
      obtain ⟨k, rfl, hk⟩ := hrel
      by_cases hkm : k < m
      · have hS8 := HS2.out.keep HE8.out (by simp)
        obtain ⟨b2, o2, rfl⟩ : ∃ b o, a2 = some ⟨b, o, none⟩ := by
          rcases hS8.at_ with h | ⟨b, o, h, _⟩
          · have := HN2.out; rw [h] at this; simp at this; omega
          · exact ⟨b, o, h⟩
        have hce := hS8.cellAt k (by rw [HN2.out]; exact hkm)
        have hbd := hS8.ok.getD k
        have K9 := load_ok (I + k) 1 _ _ w8 L' HA8.out (by omega) (by simp)
        rw [numAt_one, HY.out k hkm, show ((I + k : Nat) : Int) = (I : Int) + k by omega] at K9
        clear hS8
        generalize ys.getD k 0 = x at *
        go_wp2_with (go_at_call 17; refine met K9 ?_)
        go_round
        case rel => exact ⟨k + 1, by go_num, by omega⟩
        case measure => simp [intOf]; omega
      · have K9 := clear_ok I m _ _ w8 L' HA8.out (by omega)
        rw [HL2.out] at K9
        go_wp2_with fail
        refine K9.mono ?_
        clear K9
        rintro e w9 ⟨rfl, hA9, hE9⟩
        have HE9 : Hid (Ext [] w w9) := ((HE8.out.mono (by simp)).trans hE9).drop (by simp)
        have hR39 : Row w9 w2.heap.size L := HR38.out.keep hE9 (by simp; omega)
        have hR69 : Row w9 w5.heap.size L' := HR68.out.keep hE9 (by simp; omega)
        have K10 := bytes_ok I m _ _ w9 L2 hA9 (by omega)
        go_wp2_with fail
        refine K10.mono ?_
        clear K10
        rintro e w10 ⟨rfl, hR10, hE10⟩
        have HA10 : Hid (Ar w10 (w.heap.size + 1) w.heap.size L2) := hA9.keep hE10 (by simp) (by simp)
        have HE10 : Hid (Ext [] w w10) := HE9.out.trans hE10
        have HR310 : Hid (Row w10 w2.heap.size L) := hR39.keep hE10 (by simp)
        have HR610 : Hid (Row w10 w5.heap.size L') := hR69.keep hE10 (by simp)
        have HR10 : Hid (Row w10 w9.heap.size (cut L2 I m)) := hR10
        clear hA9 hE9 hR39 hR69 hE10 hR10 HR68 HR38 HA8 HE8
        go_wp2_with fail
        go_loop [19] (fun q => ∃ k : Nat, q = .int .i64 k ∧ k ≤ m) (fun q => (m - (intOf q)).toNat)
        case atStart => exact ⟨0, rfl, Nat.zero_le _⟩
        case round =>
          obtain ⟨j, rfl, hj⟩ := hrel
          by_cases hjm : j < m
          · have hce := HR10.out.cell j (by rw [length_cut]; exact hjm)
            rw [HZ.out j hjm] at hce
            go_wp2
            go_round
            case rel => exact ⟨j + 1, by go_num, by omega⟩
            case measure => simp [intOf]; omega
          · have K11 := size_any w10 _ _ _ HA10.out
            have K12 := bytes_ok 0 L2.length _ _ w10 L2 HA10.out (by omega)
            rw [cut_all] at K12
            rw [hl2] at K11 K12
            go_wp2_with fail
            refine met K11 ?_
            go_wp2_with fail
            refine K12.mono ?_
            clear K11 K12
            rintro e w11 ⟨rfl, hR11, hE11⟩
            have HE11 : Hid (Ext [] w w11) := HE10.out.trans hE11
            have hR3 := HR310.out.keep hE11 (by simp)
            have hR6 := HR610.out.keep hE11 (by simp)
            have hc3 : Hid (∀ k, k < L.length → w11.cell? ⟨w2.heap.size, k, none⟩ = some (.int .u8 (L.getD k 0))) := fun k hk => hR3.cell k hk
            have hc6 : Hid (∀ k, k < L.length → w11.cell? ⟨w5.heap.size, k, none⟩ = some (.int .u8 (L'.getD k 0))) := fun k hk => hR6.cell k (by omega)
            have hc11 : Hid (∀ k, k < L.length → w11.cell? ⟨w10.heap.size, k, none⟩ = some (.int .u8 (L2.getD k 0))) := fun k hk => hR11.cell k (by omega)
            clear hR3 hR6 hR11 hE11 HE10 HR310 HR610 HR10 HA10 HL2 HC HY HZ HS2 HN2 HE9 HE7 HE6 HE5 HE4 HE3
            clear hlt hlt2 hlt3 hlt5 hlt6 hql hq4
            generalize hl : L.length = l at *
            clear hl
            go_wp2_with fail
            go_loopw [22] (fun q wr => ∃ k r : Nat, q = .int .i64 k ∧ k ≤ l ∧ wr = w11.drewN r) (fun q _ => (l - (intOf q)).toNat)
            case atStart => exact ⟨0, 0, rfl, Nat.zero_le _, rfl⟩
            case round =>
              obtain ⟨k, r, rfl, hk, rfl⟩ := hrel
              by_cases hkl : k < l
              · have hx := hc3.out k hkl
                have hy := hc6.out k hkl
                have hz := hc11.out k hkl
                by_cases g1 : (k : Int) < I
                · rw [← HR2.out k hkl (by omega), ← HR.out k hkl (by omega)] at hz
                  rw [← HR.out k hkl (by omega)] at hy
                  have d0 : k < I := by omega
                  have d1 : decide ((k : Int) < I) = true := decide_eq_true g1
                  generalize L.getD k 0 = x at *
                  go_wp2
                  go_quiet (fail)
                  go_wp2
                  go_roundw
                  case rel => exact ⟨k + 1, _, by go_num, by omega, rfl⟩
                  case measure => simp [intOf]; omega
                · by_cases g2 : (I : Int) + m ≤ k
                  · rw [← HR2.out k hkl (by omega), ← HR.out k hkl (by omega)] at hz
                    rw [← HR.out k hkl (by omega)] at hy
                    have d0 : ¬ k < I := by omega
                    have d1 : decide ((k : Int) < I) = false := decide_eq_false g1
                    have d2 : decide ((I : Int) + m ≤ k) = true := decide_eq_true g2
                    generalize L.getD k 0 = x at *
                    go_wp2
                    go_quiet (fail)
                    go_wp2
                    go_roundw
                    case rel => exact ⟨k + 1, _, by go_num, by omega, rfl⟩
                    case measure => simp [intOf]; omega
                  · clear hx hy hz
                    have d0 : ¬ k < I := by omega
                    have d1 : decide ((k : Int) < I) = false := decide_eq_false g1
                    have d2 : decide ((I : Int) + m ≤ k) = false := decide_eq_false g2
                    go_wp2
                    go_quiet (fail)
                    go_wp2
                    go_roundw
                    case rel => exact ⟨k + 1, _, by go_num, by omega, rfl⟩
                    case measure => simp [intOf]; omega
              · go_wp2
                go_ret
                exact ⟨rfl, HE11.out.trans (Ext.drewN _ _ _)⟩
  · obtain ⟨h5, hbad⟩ := perr_len he
    have K4 := write_err i (some ⟨q, 0, none⟩) m qc _ _ w4 L hA4 hi 5 h5 (by omega)
    clear he h5
    go_wp2_with fail
    refine met K4 ?_
    go_wp2_with fail
    refine met (size_any w4 _ _ _ hA4) ?_
    go_wp2_with fail
    refine (bytes_ok 0 L.length _ _ w4 L hA4 (by omega)).mono ?_
    rw [cut_all]
    rintro e w5 ⟨rfl, hR5, hE5⟩
    go_wp2_with fail
    refine (same_true _ _ L.length _ _ L w5 ((hR34.keep hE5 (by simp)).sl hA4.ok) (hR5.sl hA4.ok) rfl (by unfold maxLen; omega)).mono ?_
    rintro e w6 ⟨rfl, hE6⟩
    have K6 := size_any w6 _ _ _ ((hA4.keep hE5 (by simp) (by simp)).keep hE6 (by simp) (by simp))
    have HE6 : Hid (Ext [] w w6) := (HE4.out.trans hE5).trans hE6
    clear hE6 hE5 hR5 hR34 hA4 K4 hE4 hO4 hlt hlt2 hlt3 hql hq4
    generalize L.length = l at *
    go_wp2_with (go_at_call 11; refine met K6 ?_)
    all_goals
      go_ret
      refine ⟨?_, HE6.out⟩
      first
        | rfl
        | exact ret_yes (by simp; omega)

end Go.Proofs.Ytnnagkinkckoeaa

namespace Go.Proofs.Ytnnagkinkckoeaa.arenaWrites
open Go.ChangeShapes Go.WideShapes Go.ChangeAt Go.RowKit

theorem walk (a0 : Int) (a1 : Option Addr) (len1 cap1 : Nat) (z1 : List Int) (a2 : Option Addr) (len2 cap2 : Nat) (z2 : List Int) (a3 : Int) (w : World) (w0 : (Lit.int .i64 a0).wf = true) (w1 : IsRow .u8 w a1 len1 cap1 z1) (w2 : IsRow .u8 w a2 len2 cap2 z2) (w3 : (Lit.int .i64 a3).wf = true) (r2 : len2 ≤ 140737488351232) :
    Calls Try.prog 8 #[.int .i64 a0, .slice a1 len1 cap1, .slice a2 len2 cap2, .int .i64 a3] w (SayPost w (.bool true)) :=
  writesOf a0 a1 len1 cap1 _ a2 len2 cap2 _ a3 w (i64_of_wf w0) (i64_of_wf w3) w1.sl.1 w1.sl.2.1 w1.sl.2.2 w2.sl.1 w2.sl.2.1 (by omega)

set_option maxRecDepth 100000 in
theorem lifted (os : Os) (started : os.Started) (H : Type) (enc : TypeId × Value → H) :
    ReturnsInHanded {} Try.checked os 8 .any (Rows.arenaWritesSpec.pre6 enc Try.prog Try.f8 Rows.arenaWritesRow.domain false) (Rows.arenaWritesSpec.post enc Try.prog Try.f8 false true false false) := by
  refine returnsInHanded_of_change_sized (C := Try.checked) own started (by kernel_rfl) Try.func8
    (ChangeSpec.witness6 (enc := enc) (C := Try.checked) false ⟨#[], #[.int .i64 0, .slice none 0 0, .slice none 0 0, .int .i64 0], []⟩ 8 (by kernel_rfl) (by kernel_rfl) (by kernel_rfl) (by kernel_rfl)) ?_
  intro W base args ds gs before hval0 hW hcnd hsz0 _
  have hval : ∀ (j : Nat) t v, Try.f8.params[j]? = some t → args[j]? = some v → Value.okWide Try.prog W .any base t v := hval0
  have hW' := hW
  obtain ⟨p, q, hA0, hV, rfl, hfz, hnd⟩ := hW
  have hA : DataW.TrodAll enc Try.prog W 0 (fun _ => true) true Try.f8.params.toList args.toList ds p := hA0
  rw [Try.params8] at hA hval
  obtain ⟨v0, vs0, d0, ds0, p0, q0, hargs, rfl, rfl, h0, r0⟩ := trodAll_cons hA
  obtain ⟨v1, vs1, d1, ds1, p1, q1, rfl, rfl, rfl, h1, r1⟩ := trodAll_cons r0
  obtain ⟨v2, vs2, d2, ds2, p2, q2, rfl, rfl, rfl, h2, r2⟩ := trodAll_cons r1
  obtain ⟨v3, vs3, d3, ds3, p3, q3, rfl, rfl, rfl, h3, r3⟩ := trodAll_cons r2
  obtain ⟨rfl, rfl, rfl⟩ := trodAll_nil r3
  obtain rfl : args = #[v0, v1, v2, v3] := by cases args; simp_all
  obtain ⟨rfl, rfl⟩ := trodVars_none hV
  obtain ⟨a0, rfl, rfl, rfl, w0⟩ := open_int Try.underlying3 (hval 0 3 v0 rfl rfl) h0
  obtain ⟨a1, len1, cap1, rfl⟩ := okWide_slice Try.underlying29 (hval 1 29 v1 rfl rfl)
  have k1 := h1
  have lt1 : ∀ x ∈ p1, x.block < W.heap.size := by obtain ⟨m, hm⟩ := k1; exact DataW.trod_lt m _ _ _ hm
  obtain ⟨z1, w1⟩ : ∃ zs, IsRow .u8 W a1 len1 cap1 zs := by
    obtain ⟨fuel, hf⟩ := h1
    rcases open_ints Try.underlying29 Try.underlying5 (by kernel_rfl) hf with ⟨hcs, _⟩ | ⟨x, l, c, zs, hcs, _, hl, hm, hz, _, hcell, hwz⟩
    · simp [Value.cells] at hcs
      obtain ⟨rfl, rfl, rfl⟩ := hcs
      exact ⟨[], .inl ⟨rfl, rfl, rfl, rfl⟩⟩
    · simp [Value.cells] at hcs
      obtain ⟨rfl, rfl, rfl⟩ := hcs
      exact ⟨zs, .inr ⟨_, rfl, hl, hm, by simpa using hz, hcell, hwz⟩⟩
  obtain ⟨a2, len2, cap2, rfl⟩ := okWide_slice Try.underlying29 (hval 2 29 v2 rfl rfl)
  have k2 := h2
  have lt2 : ∀ x ∈ p2, x.block < W.heap.size := by obtain ⟨m, hm⟩ := k2; exact DataW.trod_lt m _ _ _ hm
  obtain ⟨z2, w2, y2⟩ : ∃ zs, IsRow .u8 W a2 len2 cap2 zs ∧ (len2 = 0 ∨ ∃ es sp, d2 = .slice es sp ∧ es.length = len2) := by
    obtain ⟨fuel, hf⟩ := h2
    rcases open_ints Try.underlying29 Try.underlying5 (by kernel_rfl) hf with ⟨hcs, _⟩ | ⟨x, l, c, zs, hcs, _, hl, hm, hz, hx, hcell, hwz⟩
    · simp [Value.cells] at hcs
      obtain ⟨rfl, rfl, rfl⟩ := hcs
      exact ⟨[], .inl ⟨rfl, rfl, rfl, rfl⟩, .inl rfl⟩
    · simp [Value.cells] at hcs
      obtain ⟨rfl, rfl, rfl⟩ := hcs
      simp only [Prod.mk.injEq] at hx
      simp only [if_true] at hz
      exact ⟨zs, .inr ⟨_, rfl, hl, hm, hz, hcell, hwz⟩, .inr ⟨_, _, hx.1, by simp [lits]; omega⟩⟩
  obtain ⟨a3, rfl, rfl, rfl, w3⟩ := open_int Try.underlying3 (hval 3 3 v3 rfl rfl) h3
  have hsz : (DataW.weightsEach Try.prog [3, 29, 29, 3] [_, d1, d2, _]).all (· ≤ reachBytes) = true := hsz0
  have r2 : len2 ≤ 140737488351232 := by
    rcases y2 with h | ⟨es, sp, rfl, hl⟩
    · omega
    · have := sized_slice hsz (j := 2) (t := 29) (e := 5) rfl rfl Try.underlying29
      rw [bytes5] at this
      simp only [reachBytes] at this
      omega
  clear hA0 hval0
  refine (walk a0 a1 len1 cap1 z1 a2 len2 cap2 z2 a3 W w0 w1 w2 w3 r2).mono fun e W' ⟨he, hext⟩ => ?_
  subst he
  have bel := hext.below
  exact ⟨_, rfl, _, _, _, [], _, [], hW', trodAll_mk1 (shut_bool Try.underlying4 _), (trodAll_cons_mk (shut_int Try.underlying3 w0) (trodAll_cons_mk (Below.trod laidOut (by kernel_rfl) (of_decide_eq_true (by kernel_rfl)) k1 bel lt1) (trodAll_cons_mk (Below.trod laidOut (by kernel_rfl) (of_decide_eq_true (by kernel_rfl)) k2 bel lt2) (trodAll_cons_mk (shut_int Try.underlying3 w3) trodAll_mk0)))), rfl, bel.frame _, fun h => by cases h⟩

theorem over : Rows.arenaWritesRow.holds Try.pinned (OpenSpec.ofChange Rows.arenaWritesSpec) :=
  OpenClaim.holds_of_wide 8 Try.f8 rfl rfl rfl rfl rfl rfl rfl ⟨rfl, rfl, rfl, rfl, rfl⟩ rfl rfl rfl rfl rfl (by kernel_rfl) Try.func8 (by kernel_rfl)
    (of_decide_eq_true (by kernel_rfl)) (by unfold Func.isWrapper; first | (rw [if_pos (by decide +kernel)]; kernel_rfl) | (rw [if_neg (by decide +kernel)]; exact ⟨rfl, rfl⟩))
    (fun os started H enc _ => lifted os started H enc)

end Go.Proofs.Ytnnagkinkckoeaa.arenaWrites

namespace Go.Proofs.Ytnnagkinkckoeaa
theorem arenaWrites_holds : Rows.ArenaWritesSaid := arenaWrites.over
#print axioms arenaWrites_holds
end Go.Proofs.Ytnnagkinkckoeaa
