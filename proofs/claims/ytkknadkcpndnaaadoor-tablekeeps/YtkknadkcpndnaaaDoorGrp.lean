/-
  The program's calls on words of eight bytes; no statement is proved here.
-/
import Derived.Test.YtkknadkcpndnaaaDoorBase
import Derived.Test.YtkknadkcpndnaaaDoorMath
import Derived.Laws.Bits64b
namespace Go.Proofs.YtkknadkcpndnaaaDoor
open Go.RowKit

/-! ### bits of words -/
theorem u64w {n : Nat} (h : n < 18446744073709551616) : IntKind.u64.wrap (n : Int) = (n : Int) := by rw [IntKind.wrap_u64]; omega
theorem toNat64 {n : Nat} (h : n < 18446744073709551616) : (BitVec.ofInt 64 (n : Int)).toNat = n := by
  rw [BitVec.ofInt_natCast, BitVec.toNat_ofNat]; exact Nat.mod_eq_of_lt (by omega)
theorem bits_andNot_u64_nat (a b : Nat) (ha : a < 18446744073709551616) (hb : b < 18446744073709551616) :
    bits .andNot .u64 (a : Int) (b : Int) = ((a &&& (18446744073709551615 - b) : Nat) : Int) := by
  show IntKind.u64.wrap ((BitVec.ofInt 64 (a : Int) &&& ~~~ BitVec.ofInt 64 (b : Int)).toNat : Int) = _
  rw [BitVec.toNat_and, BitVec.toNat_not, toNat64 ha, toNat64 hb]
  exact u64w (and_lt64 (by omega))
theorem bits_not_u64_nat (x : Nat) (hx : x < 18446744073709551616) : bits .xor .u64 IntKind.u64.max (x : Int) = ((18446744073709551615 - x : Nat) : Int) := by
  show IntKind.u64.wrap ((BitVec.ofInt 64 18446744073709551615 ^^^ BitVec.ofInt 64 (x : Int)).toNat : Int) = _
  rw [show BitVec.ofInt 64 18446744073709551615 = BitVec.allOnes 64 from by decide, BitVec.allOnes_xor, BitVec.toNat_not, toNat64 hx]
  exact u64w (by omega)

/-! ### the calls -/
theorem place_any (i : Int) (w : World) : Calls Tryd.prog 92 #[.int .i64 i] w (fun e w' => e = .returned (.bool (decide (0 ≤ i ∧ i < 8))) ∧ w' = w) := by
  by_cases h : 0 ≤ i
  · go_enter Tryd.func92, Tryd.ntmps92
    go_wp2
    go_ret
    refine ⟨?_, rfl⟩
    simp [h]
  · go_enter Tryd.func92, Tryd.ntmps92
    go_wp2
    go_ret
    refine ⟨?_, rfl⟩
    have : decide (0 ≤ i) = false := decide_eq_false (by omega)
    rw [this]
    rfl

theorem top_bit (c k : Nat) : c / 2 ^ (8 * k + 7) % 2 = if 128 ≤ byt c k then 1 else 0 := by
  unfold byt
  rw [Nat.pow_add, ← Nat.div_div_eq_div_mul]
  generalize c / 2 ^ (8 * k) = d
  split <;> omega
theorem pow_lt9 {k : Nat} (h : k < 8) : 2 ^ k ≤ 128 := by
  have := Nat.pow_le_pow_right (n := 2) (by omega) (show k ≤ 7 by omega)
  omega
theorem high_step (c k : Nat) (hc : c < 18446744073709551616) (hk : k < 8) :
    bits BinOp.or IntKind.u64 (↑(mk (fun i => decide (128 ≤ byt c i)) k)) (IntKind.u64.wrap (bits BinOp.and IntKind.u64 ((c : Int) / 2 ^ (8 * k + 7)) 1 * 2 ^ k)) = ((mk (fun i => decide (128 ≤ byt c i)) (k + 1) : Nat) : Int) := by
  have hp := pow_lt9 hk
  have e1 : (c : Int) / 2 ^ (8 * k + 7) = ((c / 2 ^ (8 * k + 7) : Nat) : Int) := by norm_cast
  have hd : c / 2 ^ (8 * k + 7) < 18446744073709551616 := Nat.lt_of_le_of_lt (Nat.div_le_self _ _) hc
  have e2 := bits_and_u64_nat (c / 2 ^ (8 * k + 7)) 1 hd (by omega)
  have hb : (if 128 ≤ byt c k then 1 else 0) * 2 ^ k < 18446744073709551616 := by split <;> omega
  rw [e1, show (1 : Int) = ((1 : Nat) : Int) from rfl, e2, Nat.and_one_is_mod, top_bit, show (((if 128 ≤ byt c k then 1 else 0 : Nat) : Int) * 2 ^ k) = (((if 128 ≤ byt c k then 1 else 0) * 2 ^ k : Nat) : Int) by norm_cast, u64w hb]
  have hm := mk_lt (fun i => decide (128 ≤ byt c i)) k
  rw [bits_or_u64_nat _ _ (by omega) hb, mk_or, Nat.shiftLeft_eq]
  simp only [decide_eq_true_eq]
theorem highest_any (c : Nat) (hc : c < 18446744073709551616) (w : World) : Calls Tryd.prog 84 #[.int .u64 c] w (fun e w' => e = .returned (.int .u64 (hi c)) ∧ w' = w) := by
  go_enter Tryd.func84, Tryd.ntmps84
  go_wp2
  go_loop [3, 5] (fun m q => ∃ k : Nat, q = .int .i64 k ∧ k ≤ 8 ∧ m = .int .u64 (mk (fun i => decide (128 ≤ byt c i)) k)) (fun _ q => (8 - (intOf q)).toNat)
  case atStart => exact ⟨0, rfl, by omega, rfl⟩
  case round =>
    obtain ⟨k, rfl, hk, rfl⟩ := hrel
    by_cases h : k < 8
    · go_wp2
      go_round
      case rel => exact ⟨k + 1, rfl, by omega, congrArg (Value.int IntKind.u64) (high_step c k hc h)⟩
      case measure => simp [intOf]; omega
    · obtain rfl : k = 8 := by omega
      go_wp2
      go_ret
      exact ⟨rfl, rfl⟩

theorem mw_eq (c h : Nat) (hc : c < 18446744073709551616) (hh : h < 256) : bits BinOp.xor IntKind.u64 IntKind.u64.max (bits BinOp.or IntKind.u64 (IntKind.u64.wrap (bits BinOp.and IntKind.u64 (bits BinOp.xor IntKind.u64 (↑c) (72340172838076673 * ↑h)) 9187201950435737471 + 9187201950435737471)) (bits BinOp.xor IntKind.u64 (↑c) (72340172838076673 * ↑h))) = ((mw c h : Nat) : Int) := by
  have ho : c ^^^ (72340172838076673 * h) < 18446744073709551616 := xor_lt64 hc (by omega)
  have e1 := bits_xor_u64_nat c (72340172838076673 * h) hc (by omega)
  rw [show ((72340172838076673 * h : Nat) : Int) = 72340172838076673 * (h : Int) by omega] at e1
  have e2 := bits_and_u64_nat (c ^^^ (72340172838076673 * h)) 9187201950435737471 ho (by omega)
  have hs := sum_lt c h
  have e3 : IntKind.u64.wrap ((((c ^^^ (72340172838076673 * h)) &&& 9187201950435737471 : Nat) : Int) + 9187201950435737471) = ((((c ^^^ (72340172838076673 * h)) &&& 9187201950435737471) + 9187201950435737471 : Nat) : Int) := by
    rw [IntKind.wrap_u64]; omega
  rw [e1, show (9187201950435737471 : Int) = ((9187201950435737471 : Nat) : Int) from rfl, e2, show ((9187201950435737471 : Nat) : Int) = (9187201950435737471 : Int) from rfl, e3, bits_or_u64_nat _ _ hs ho, bits_not_u64_nat _ (or_lt64 hs ho)]
  rfl
theorem match_any (c h : Nat) (hc : c < 18446744073709551616) (hh : h < 256) (w : World) : Calls Tryd.prog 76 #[.int .u64 c, .int .u8 h] w (fun e w' => e = .returned (.int .u64 (mt c h)) ∧ w' = w) := by
  have e := mw_eq c h hc hh
  have K := highest_any (mw c h) (by unfold mw; omega) w
  rw [hi_mw hc hh] at K
  go_enter Tryd.func76, Tryd.ntmps76
  go_wp2_with fail
  refine met K ?_
  go_wp2
  go_ret
  exact ⟨rfl, rfl⟩
theorem full_any (c : Nat) (hc : c < 18446744073709551616) (w : World) : Calls Tryd.prog 66 #[.int .u64 c] w (fun e w' => e = .returned (.int .u64 (fl c)) ∧ w' = w) := by
  have e := bits_not_u64_nat c hc
  have K := highest_any (18446744073709551615 - c) (by omega) w
  rw [hi_not hc] at K
  go_enter Tryd.func66, Tryd.ntmps66
  go_wp2_with fail
  refine met K ?_
  go_wp2
  go_ret
  exact ⟨rfl, rfl⟩
theorem empty_any (c : Nat) (hc : c < 18446744073709551616) (w : World) : Calls Tryd.prog 73 #[.int .u64 c] w (fun e w' => e = .returned (.int .u64 (mt c 128)) ∧ w' = w) := by
  have K := match_any c 128 hc (by omega) w
  go_enter Tryd.func73, Tryd.ntmps73
  go_wp2_with (go_at_call 76; refine met K ?_)
  go_ret
  exact ⟨rfl, rfl⟩
theorem deleted_any (c : Nat) (hc : c < 18446744073709551616) (w : World) : Calls Tryd.prog 67 #[.int .u64 c] w (fun e w' => e = .returned (.int .u64 (mt c 254)) ∧ w' = w) := by
  have K := match_any c 254 hc (by omega) w
  go_enter Tryd.func67, Tryd.ntmps67
  go_wp2_with (go_at_call 76; refine met K ?_)
  go_ret
  exact ⟨rfl, rfl⟩
theorem mt_lt (c h : Nat) : mt c h < 18446744073709551616 := by
  have := mk_lt (fun i => decide (byt c i = h)) 8
  unfold mt; omega
theorem fl_lt (c : Nat) : fl c < 18446744073709551616 := by
  have := mk_lt (fun i => decide (byt c i < 128)) 8
  unfold fl; omega
theorem open_any (c : Nat) (hc : c < 18446744073709551616) (w : World) : Calls Tryd.prog 72 #[.int .u64 c] w (fun e w' => e = .returned (.int .u64 ((mt c 128 ||| mt c 254 : Nat))) ∧ w' = w) := by
  have e := bits_or_u64_nat _ _ (mt_lt c 128) (mt_lt c 254)
  have K1 := empty_any c hc w
  have K2 := deleted_any c hc w
  go_enter Tryd.func72, Tryd.ntmps72
  go_wp2_with (first | (go_at_call 73; refine met K1 ?_) | (go_at_call 67; refine met K2 ?_))
  go_ret
  exact ⟨rfl, rfl⟩
theorem new_any (w : World) : Calls Tryd.prog 51 #[] w (fun e w' => e = .returned (.int .u64 9259542123273814144) ∧ w' = w) := by
  go_enter Tryd.func51, Tryd.ntmps51
  go_wp2
  go_ret
  exact ⟨rfl, rfl⟩
theorem byt_int (c i : Nat) : (c : Int) / 2 ^ (8 * i) % 256 = ((byt c i : Nat) : Int) := by
  have e : (c : Int) / 2 ^ (8 * i) = ((c / 2 ^ (8 * i) : Nat) : Int) := by norm_cast
  unfold byt
  rw [e]
  generalize c / 2 ^ (8 * i) = d
  omega
theorem mul_int (b i : Nat) : (b : Int) * 2 ^ (8 * i) = ((b * 2 ^ (8 * i) : Nat) : Int) := by norm_cast
theorem st_int {c i b : Nat} (hc : c < 18446744073709551616) (hi : i < 8) (hb : b < 256) : bits BinOp.or IntKind.u64 (bits BinOp.andNot IntKind.u64 (↑c) (IntKind.u64.wrap (255 * 2 ^ (8 * i)))) (IntKind.u64.wrap (↑b * 2 ^ (8 * i))) = ((st c i b : Nat) : Int) := by
  have h1 := mul_lt64 (b := 255) (by omega) i hi
  have h2 := mul_lt64 hb i hi
  rw [show ((255 : Int) * 2 ^ (8 * i)) = ((255 * 2 ^ (8 * i) : Nat) : Int) from mul_int 255 i, mul_int b i, u64w h1, u64w h2, bits_andNot_u64_nat _ _ hc h1, bits_or_u64_nat _ _ (Nat.lt_of_le_of_lt Nat.and_le_left hc) h2]
  rfl
theorem get_ok (c i : Nat) (hi : i < 8) (w : World) : Calls Tryd.prog 83 #[.int .u64 c, .int .i64 i] w (fun e w' => e = .returned (.tuple #[.int .u8 (byt c i), .int .i64 0]) ∧ w' = w) := by
  have K := place_any i w
  have hd : decide ((0 : Int) ≤ i ∧ (i : Int) < 8) = true := decide_eq_true (by omega)
  rw [hd] at K
  go_enter Tryd.func83, Tryd.ntmps83
  go_wp2_with (go_at_call 92; refine met K ?_)
  go_ret2
  exact ⟨congrArg (fun x => Ending.returned (.tuple #[.int .u8 x, .int .i64 0])) (byt_int c i), rfl⟩
theorem get_bad (c : Nat) (i : Int) (hi : i < 0 ∨ 8 ≤ i) (w : World) : Calls Tryd.prog 83 #[.int .u64 c, .int .i64 i] w (fun e w' => e = .returned (.tuple #[.int .u8 0, .int .i64 2]) ∧ w' = w) := by
  have K := place_any i w
  have hd : decide ((0 : Int) ≤ i ∧ (i : Int) < 8) = false := decide_eq_false (by omega)
  rw [hd] at K
  go_enter Tryd.func83, Tryd.ntmps83
  go_wp2_with (go_at_call 92; refine met K ?_)
  go_ret2
  exact ⟨rfl, rfl⟩
theorem set_ok (c i b : Nat) (hc : c < 18446744073709551616) (hi : i < 8) (hb : b < 256) (w : World) : Calls Tryd.prog 90 #[.int .u64 c, .int .i64 i, .int .u8 b] w (fun e w' => e = .returned (.tuple #[.int .u64 (st c i b), .int .i64 0]) ∧ w' = w) := by
  have K := place_any i w
  have hd : decide ((0 : Int) ≤ i ∧ (i : Int) < 8) = true := decide_eq_true (by omega)
  rw [hd] at K
  go_enter Tryd.func90, Tryd.ntmps90
  go_wp2_with (go_at_call 92; refine met K ?_)
  go_ret2
  exact ⟨congrArg (fun x => Ending.returned (.tuple #[.int .u64 x, .int .i64 0])) (st_int hc hi hb), rfl⟩
theorem set_bad (c : Nat) (i : Int) (b : Nat) (hi : i < 0 ∨ 8 ≤ i) (w : World) : Calls Tryd.prog 90 #[.int .u64 c, .int .i64 i, .int .u8 b] w (fun e w' => e = .returned (.tuple #[.int .u64 0, .int .i64 2]) ∧ w' = w) := by
  have K := place_any i w
  have hd : decide ((0 : Int) ≤ i ∧ (i : Int) < 8) = false := decide_eq_false (by omega)
  rw [hd] at K
  go_enter Tryd.func90, Tryd.ntmps90
  go_wp2_with (go_at_call 92; refine met K ?_)
  go_ret2
  exact ⟨rfl, rfl⟩
end Go.Proofs.YtkknadkcpndnaaaDoor
