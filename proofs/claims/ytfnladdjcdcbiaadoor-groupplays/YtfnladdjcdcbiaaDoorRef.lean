/-
  The reference's calls on words of eight bytes; no statement is proved here.
-/
import Derived.Test.YtfnladdjcdcbiaaDoorTold
namespace Go.Proofs.YtfnladdjcdcbiaaDoor
open Go.RowKit

theorem rbyte_any (c i : Nat) (hi : i < 8) (w : World) : Calls Tryd.prog 24 #[.int .u64 c, .int .i64 i] w (fun e w' => e = .returned (.int .u8 (byt c i)) ∧ w' = w) := by
  have e := byt_int c i
  go_enter Tryd.func24, Tryd.ntmps24
  go_wp2
  go_ret
  exact ⟨rfl, rfl⟩
theorem rget_ok (c i : Nat) (hi : i < 8) (w : World) : Calls Tryd.prog 7 #[.int .u64 c, .int .i64 i] w (fun e w' => e = .returned (.tuple #[.int .u8 (byt c i), .int .i64 0]) ∧ w' = w) := by
  have K := rbyte_any c i hi w
  go_enter Tryd.func7, Tryd.ntmps7
  go_wp2_with (go_at_call 24; refine met K ?_)
  go_ret2
  exact ⟨rfl, rfl⟩
theorem rget_bad (c : Nat) (i : Int) (hi : i < 0 ∨ 8 ≤ i) (w : World) : Calls Tryd.prog 7 #[.int .u64 c, .int .i64 i] w (fun e w' => e = .returned (.tuple #[.int .u8 0, .int .i64 2]) ∧ w' = w) := by
  rcases hi with h | h
  · go_enter Tryd.func7, Tryd.ntmps7
    go_wp2
    go_ret2
    exact ⟨rfl, rfl⟩
  · have h1 : ¬ i < 0 := by omega
    have h2 : 7 < i := by omega
    go_enter Tryd.func7, Tryd.ntmps7
    go_wp2
    go_ret2
    exact ⟨rfl, rfl⟩
theorem rset_bad (c : Nat) (i : Int) (b : Nat) (hi : i < 0 ∨ 8 ≤ i) (w : World) : Calls Tryd.prog 9 #[.int .u64 c, .int .i64 i, .int .u8 b] w (fun e w' => e = .returned (.tuple #[.int .u64 0, .int .i64 2]) ∧ w' = w) := by
  rcases hi with h | h
  · go_enter Tryd.func9, Tryd.ntmps9
    go_wp2
    go_ret2
    exact ⟨rfl, rfl⟩
  · have h1 : ¬ i < 0 := by omega
    have h2 : 7 < i := by omega
    go_enter Tryd.func9, Tryd.ntmps9
    go_wp2
    go_ret2
    exact ⟨rfl, rfl⟩
/-- The bytes from k on of a word with another byte, as one number. -/
theorem div_step (d k : Nat) : d / 2 ^ (8 * (k + 1)) * 256 + byt d k = d / 2 ^ (8 * k) := by
  unfold byt
  rw [show 8 * (k + 1) = 8 * k + 8 by omega, Nat.pow_add, ← Nat.div_div_eq_div_mul]
  generalize d / 2 ^ (8 * k) = e
  omega
theorem rset_step {c i b k : Nat} (hc : c < 18446744073709551616) (hi : i < 8) (hb : b < 256) (hk : k < 8) : IntKind.u64.wrap (IntKind.u64.wrap (((st c i b / 2 ^ (8 * (k + 1)) : Nat) : Int) * 256) + (((if k = i then b else byt c k) : Nat) : Int)) = ((st c i b / 2 ^ (8 * k) : Nat) : Int) := by
  have h1 := byt_st (c := c) hb hi hk
  have h2 := div_step (st c i b) k
  have h3 : st c i b / 2 ^ (8 * k) < 18446744073709551616 := Nat.lt_of_le_of_lt (Nat.div_le_self _ _) (st_lt hc hb hi)
  rw [← h1, IntKind.wrap_u64, IntKind.wrap_u64]
  omega
set_option maxHeartbeats 1000000 in
theorem rset_ok (c i b : Nat) (hc : c < 18446744073709551616) (hi : i < 8) (hb : b < 256) (w : World) : Calls Tryd.prog 9 #[.int .u64 c, .int .i64 i, .int .u8 b] w (fun e w' => e = .returned (.tuple #[.int .u64 (st c i b), .int .i64 0]) ∧ w' = w) := by
  have h7 : ¬ ((7 : Int) < (i : Int)) := by omega
  have hst : st c i b / 2 ^ (8 * 8) = 0 := Nat.div_eq_of_lt (st_lt hc hb hi)
  have hbl := byt_lt c
  go_enter Tryd.func9, Tryd.ntmps9
  go_wp2
  clear h7
  go_loop [8, 9] (fun o q => ∃ k : Nat, q = .int .i64 ((k : Int) - 1) ∧ k ≤ 8 ∧ o = .int .u64 ((st c i b / 2 ^ (8 * k) : Nat) : Int)) (fun _ q => (intOf q + 1).toNat)
  case atStart => exact ⟨8, rfl, by omega, by rw [hst]; rfl⟩
  case round =>
    obtain ⟨k, rfl, hk, rfl⟩ := hrel
    rcases Nat.eq_zero_or_pos k with h0 | h0
    · subst h0
      go_wp2
      go_ret2
      exact ⟨by simp, rfl⟩
    · obtain ⟨j, rfl⟩ : ∃ j, k = j + 1 := ⟨k - 1, by omega⟩
      have hj8 : j < 8 := by omega
      have K := rbyte_any c j hj8 w
      have hs := rset_step hc hi hb hj8
      have hbj := hbl j
      rw [show (((j + 1 : Nat) : Int) - 1) = (j : Int) by omega]
      generalize st c i b / 2 ^ (8 * (j + 1)) = X at *
      generalize hY : st c i b / 2 ^ (8 * j) = Y at *
      by_cases hji : j = i
      · subst hji
        simp only [if_true] at hs
        go_wp2_with (go_at_call 24; refine met K ?_)
        go_round
        case rel => exact ⟨j, rfl, by omega, by rw [hY]⟩
        case measure => simp [intOf]
      · simp only [hji, if_false] at hs
        have hne : ((j : Int) == (i : Int)) = false := by simp only [beq_eq_false_iff_ne]; omega
        generalize byt c j = bj at *
        go_wp2_with (go_at_call 24; refine met K ?_)
        go_round
        case rel => exact ⟨j, rfl, by omega, by rw [hY]⟩
        case measure => simp [intOf]
theorem pow_int {k : Nat} (hk : k < 64) : IntKind.u64.wrap ((2 : Int) ^ k) = ((2 ^ k : Nat) : Int) := by
  have : 2 ^ k < 2 ^ 64 := Nat.pow_lt_pow_right (by omega) hk
  rw [show ((2 : Int) ^ k) = ((2 ^ k : Nat) : Int) by norm_cast]
  exact u64w (by omega)
theorem mk_add {p : Nat → Bool} {k : Nat} (hk : k < 8) (h : p k = true) : IntKind.u64.wrap (((mk p k : Nat) : Int) + ((2 ^ k : Nat) : Int)) = ((mk p (k + 1) : Nat) : Int) := by
  have h1 := mk_lt p k
  have h2 := pow_lt9 hk
  rw [mk, if_pos h, IntKind.wrap_u64]
  omega
theorem mk_same {p : Nat → Bool} {k : Nat} (h : p k = false) : mk p (k + 1) = mk p k := by rw [mk, h]; simp
set_option maxHeartbeats 1000000 in
theorem rmatch_any (c h : Nat) (w : World) : Calls Tryd.prog 13 #[.int .u64 c, .int .u8 h] w (fun e w' => e = .returned (.int .u64 (mt c h)) ∧ w' = w) := by
  unfold mt
  go_enter Tryd.func13, Tryd.ntmps13
  go_wp2
  go_loop [5, 6] (fun m q => ∃ k : Nat, q = .int .i64 k ∧ k ≤ 8 ∧ m = .int .u64 (mk (fun i => decide (byt c i = h)) k)) (fun _ q => (8 - (intOf q)).toNat)
  case atStart => exact ⟨0, rfl, by omega, rfl⟩
  case round =>
    obtain ⟨k, rfl, hk, rfl⟩ := hrel
    by_cases hk8 : k < 8
    · have K := rbyte_any c k hk8 w
      by_cases hq : byt c k = h
      · have hadd := mk_add (p := fun i => decide (byt c i = h)) hk8 (by simp [hq])
        have hp := pow_int (show k < 64 by omega)
        rw [hq] at K
        generalize mk (fun i => decide (byt c i = h)) k = X at *
        generalize hY : mk (fun i => decide (byt c i = h)) (k + 1) = Y at *
        generalize 2 ^ k = B at *
        go_wp2_with (go_at_call 24; refine met K ?_)
        go_round
        case rel => exact ⟨k + 1, rfl, by omega, by rw [hY]⟩
        case measure => simp [intOf]; omega
      · have hadd := mk_same (p := fun i => decide (byt c i = h)) (k := k) (by simp [hq])
        have hne : (((byt c k : Nat) : Int) == (h : Int)) = false := by simp only [beq_eq_false_iff_ne]; omega
        generalize byt c k = bk at *
        go_wp2_with (go_at_call 24; refine met K ?_)
        go_round
        case rel => exact ⟨k + 1, rfl, by omega, by rw [hadd]⟩
        case measure => simp [intOf]; omega
    · obtain rfl : k = 8 := by omega
      go_wp2
      go_ret
      exact ⟨rfl, rfl⟩
set_option maxRecDepth 100000 in
set_option maxHeartbeats 1000000 in
theorem rfull_any (c : Nat) (w : World) : Calls Tryd.prog 18 #[.int .u64 c] w (fun e w' => e = .returned (.int .u64 (fl c)) ∧ w' = w) := by
  unfold fl
  go_enter Tryd.func18, Tryd.ntmps18
  go_wp2
  go_loop [3, 4] (fun m q => ∃ k : Nat, q = .int .i64 k ∧ k ≤ 8 ∧ m = .int .u64 (mk (fun i => decide (byt c i < 128)) k)) (fun _ q => (8 - (intOf q)).toNat)
  case atStart => exact ⟨0, rfl, by omega, rfl⟩
  case round =>
    obtain ⟨k, rfl, hk, rfl⟩ := hrel
    by_cases hk8 : k < 8
    · have K := rbyte_any c k hk8 w
      by_cases hq : byt c k < 128
      · have hadd := mk_add (p := fun i => decide (byt c i < 128)) hk8 (by simp [hq])
        have hp := pow_int (show k < 64 by omega)
        have hlt : decide (((byt c k : Nat) : Int) < 128) = true := decide_eq_true (by omega)
        generalize byt c k = bk at *
        generalize mk (fun i => decide (byt c i < 128)) k = X at *
        generalize hY : mk (fun i => decide (byt c i < 128)) (k + 1) = Y at *
        generalize 2 ^ k = B at *
        go_wp2_with (go_at_call 24; refine met K ?_)
        go_round
        case rel => exact ⟨k + 1, rfl, by omega, by rw [hY]⟩
        case measure => simp [intOf]; omega
      · have hadd := mk_same (p := fun i => decide (byt c i < 128)) (k := k) (by simp only [decide_eq_false_iff_not]; exact hq)
        have hne : ¬ (((byt c k : Nat) : Int) < 128) := by omega
        generalize byt c k = bk at *
        go_wp2_with (go_at_call 24; refine met K ?_)
        go_round
        case rel => exact ⟨k + 1, rfl, by omega, by rw [hadd]⟩
        case measure => simp [intOf]; omega
    · obtain rfl : k = 8 := by omega
      go_wp2
      go_ret
      exact ⟨rfl, rfl⟩

/-! ### lists -/
theorem range_snoc (m k : Nat) : (List.range (k + 1)).filter (fun i => m.testBit i) = (List.range k).filter (fun i => m.testBit i) ++ (if m.testBit k then [k] else []) := by
  rw [List.range_succ, List.filter_append, List.filter_cons, List.filter_nil]
theorem bit_mod (m k : Nat) : m / 2 ^ k % 2 = if m.testBit k then 1 else 0 := by
  rw [Nat.testBit_eq_decide_div_mod_eq]
  have : m / 2 ^ k % 2 < 2 := Nat.mod_lt _ (by omega)
  by_cases h : m / 2 ^ k % 2 = 1
  · simp [h]
  · simp [h]; omega

def RbPost (w : World) (L : List Nat) (e : Ending) (w' : World) : Prop := ∃ a c, e = .returned (.slice a L.length c) ∧ Lst w' (.slice a L.length c) L ∧ Ext [] w w'

set_option maxRecDepth 100000 in
set_option maxHeartbeats 2000000 in
theorem rbits_any (m : Nat) (w : World) : Calls Tryd.prog 20 #[.int .u64 m] w (RbPost w (bsF m)) := by
  go_enter Tryd.func20, Tryd.ntmps20
  go_wp2
  go_loopw [3, 4] (fun lv q wr => ∃ k : Nat, q = .int .i64 k ∧ k ≤ 64 ∧ wr.ownsRow w.heap.size 3 1 lv ((List.range k).filter (fun i => m.testBit i)).length (((List.range k).filter (fun i => m.testBit i)).map fun x => Value.int .i64 (x : Nat)) ∧ Ext [] w wr) (fun _ q _ => (64 - (intOf q)).toNat)
  case atStart => exact ⟨0, rfl, by omega, own_nil _ _ _ _, Ext.refl _ _⟩
  case round =>
    obtain ⟨k, rfl, hk, hO, hE⟩ := hrel
    have HE := hid hE
    have hsn := range_snoc m k
    have hbm := bit_mod m k
    have hfl : ((List.range k).filter (fun i => m.testBit i)).length ≤ k := by
      have := List.length_filter_le (fun i => m.testBit i) (List.range k)
      simpa using this
    have HS := hid hsn
    have hmod : ((m : Int) / 2 ^ k).tmod 2 = ((if m.testBit k then 1 else 0 : Nat) : Int) := by
      have hdv : (m : Int) / 2 ^ k = ((m / 2 ^ k : Nat) : Int) := by norm_cast
      rw [hdv, ← hbm, Int.tmod_eq_emod_of_nonneg (Int.natCast_nonneg _)]
      generalize m / 2 ^ k = d
      omega
    clear hE hsn hbm
    by_cases hk64 : k < 64
    · cases hb : m.testBit k
      · rw [hb] at hmod
        have HO := hid hO
        clear hO
        have hmod' : ((m : Int) / 2 ^ k).tmod 2 = 0 := hmod
        clear hmod
        go_wp2
        go_roundw
        case rel => exact ⟨k + 1, by go_num, by omega, by rw [HS.out, hb]; simpa using HO.out, HE.out⟩
        case measure => simp [intOf]; omega
      · rw [hb] at hmod
        have hmod' : ((m : Int) / 2 ^ k).tmod 2 = 1 := hmod
        have hE1 := Ext.alloc [] wr (.cells #[.int .i64 (k : Nat)] 3)
        have hV := vs_new wr 3 [.int .i64 (k : Nat)]
        obtain ⟨v', w', hr, hO', hE', _⟩ := app_own w _ (HE.out.trans hE1) 31 31 3 _ 8 Tryd.underlying31 info3 rfl (by omega) _ _ _ (own_keep0 hO hE1) (some ⟨wr.heap.size, 0, none⟩) 1 1 _ rfl hV (by simp [Value.oneCell']) (by omega)
        have HO' := hid hO'
        have HE' := hid hE'
        obtain ⟨a0, c0, rfl, _⟩ := own_slice hO
        obtain ⟨a1, c1, rfl, _⟩ := own_slice hO'
        clear hO hO' hE' hE1 hV hmod
        go_wp2_with (at_builtin; refine wpList_append_run rfl _ _ 31 rfl _ _ _ rfl rfl hr ?_)
        go_roundw
        case rel => exact ⟨k + 1, by go_num, by omega, by rw [HS.out, hb]; simpa using HO'.out, HE'.out⟩
        case measure => simp [intOf]; omega
    · obtain rfl : k = 64 := by omega
      obtain ⟨a0, c0, rfl, _⟩ := own_slice hO
      have HO := hid hO
      clear hO hmod
      go_wp2
      go_ret
      exact ⟨a0, c0, rfl, own_base HO.out (Nat.zero_le _), HE.out⟩

theorem sameInts_true (a b : Option Addr) (n c d : Nat) (xs : List Int) (w : World) (ha : Is w a xs) (hb : Is w b xs) (hn : xs.length = n) (hm : n ≤ 17592186044416) :
    Calls Tryd.prog 19 #[.slice a n c, .slice b n d] w (SayPost w (.bool true)) := by
  by_cases h0 : n = 0
  · subst h0
    go_enter Tryd.func19, Tryd.ntmps19
    go_wp2
    go_loop [5] (fun q => q = .int .i64 0) (fun _ => 0)
    case atStart => rfl
    case round =>
      subst hrel
      go_wp2
      go_ret
      exact ⟨rfl, Ext.refl _ _⟩
  · have hne : xs ≠ [] := by rintro rfl; simp at hn; omega
    obtain ⟨b1, o1, rfl, hc1⟩ := ha.at_ hne
    obtain ⟨b2, o2, rfl, hc2⟩ := hb.at_ hne
    rw [hn] at hc1 hc2
    have H1 := hid hc1
    have H2 := hid hc2
    clear hc1 hc2 ha hb hn hne
    go_enter Tryd.func19, Tryd.ntmps19
    go_wp2
    go_loopw [5] (fun q wr => ∃ k m : Nat, q = .int .i64 k ∧ k ≤ n ∧ wr = w.drewN m) (fun q _ => (n - (intOf q)).toNat)
    case atStart => exact ⟨0, 0, rfl, Nat.zero_le _, rfl⟩
    case round =>
      obtain ⟨k, m, rfl, hk, rfl⟩ := hrel
      by_cases hkn : k < n
      · have hx := H1.out k hkn
        have hy := H2.out k hkn
        generalize xs.getD k 0 = x at *
        go_wp2
        go_quiet (fail)
        go_wp2
        go_roundw
        case rel => exact ⟨k + 1, _, by go_num, by omega, rfl⟩
        case measure => simp [intOf]; omega
      · go_wp2
        go_ret
        exact ⟨rfl, Ext.drewN _ _ _⟩
end Go.Proofs.YtfnladdjcdcbiaaDoor
