/-
  The walk through GroupMasks; no statement is proved here.
-/
import Derived.Test.YtfnladdjcdcbiaaGrp
namespace Go.Proofs.Ytfnladdjcdcbiaa
open Go.RowKit

theorem mt_bit (c h : Nat) {i : Nat} (hi : i < 8) : (mt c h).testBit i = decide (byt c i = h) := by unfold mt; rw [mk_bit]; simp [hi]
theorem fl_bit (c : Nat) {i : Nat} (hi : i < 8) : (fl c).testBit i = decide (byt c i < 128) := by unfold fl; rw [mk_bit]; simp [hi]
theorem mk_big (p : Nat → Bool) {i : Nat} (hi : ¬ i < 8) : (mk p 8).testBit i = false := by rw [mk_bit]; simp [hi]
theorem and_none {p q : Nat → Bool} (h : ∀ i, i < 8 → (p i && q i) = false) : mk p 8 &&& mk q 8 = 0 := by
  apply Nat.eq_of_testBit_eq
  intro j
  rw [Nat.testBit_and, mk_bit, mk_bit, Nat.zero_testBit]
  by_cases hj : j < 8
  · have := h j hj
    simp [hj, this]
  · simp [hj]
theorem bit_on {x i : Nat} (h : x.testBit i = true) : x &&& 2 ^ i = 2 ^ i := by
  apply Nat.eq_of_testBit_eq
  intro j
  rw [Nat.testBit_and, Nat.testBit_two_pow]
  by_cases q : i = j
  · subst q; simp [h]
  · simp [q]
theorem bit_off {x i : Nat} (h : x.testBit i = false) : x &&& 2 ^ i = 0 := by
  apply Nat.eq_of_testBit_eq
  intro j
  rw [Nat.testBit_and, Nat.testBit_two_pow, Nat.zero_testBit]
  by_cases q : i = j
  · subst q; simp [h]
  · simp [q]
theorem but_bit {x y i : Nat} (h : ∀ j, j ≠ i → x.testBit j = y.testBit j) : x &&& (18446744073709551615 - 2 ^ i) = y &&& (18446744073709551615 - 2 ^ i) := by
  apply Nat.eq_of_testBit_eq
  intro j
  rw [Nat.testBit_and, Nat.testBit_and]
  by_cases hj : j = i
  · subst hj
    by_cases hj64 : j < 64
    · have hp : 2 ^ j < 2 ^ 64 := Nat.pow_lt_pow_right (by omega) hj64
      have : (18446744073709551615 - 2 ^ j).testBit j = false := by
        rw [show 18446744073709551615 - 2 ^ j = 2 ^ 64 - (2 ^ j + 1) by omega, Nat.testBit_two_pow_sub_succ hp]
        simp
      rw [this]; simp
    · have : (18446744073709551615 - 2 ^ j).testBit j = false := by
        have : 2 ^ 64 ≤ 2 ^ j := Nat.pow_le_pow_right (by omega) (by omega)
        rw [show 18446744073709551615 - 2 ^ j = 0 by omega]; simp
      rw [this]; simp
  · rw [h j hj]
theorem xor1_ne (b : Nat) : b ^^^ 1 ≠ b := by
  intro h
  have := congrArg (fun n => n.testBit 0) h
  simp only [Nat.testBit_xor] at this
  revert this
  cases b.testBit 0 <;> simp
theorem bits_xor_u8 (b : Nat) (hb : b < 256) : bits .xor .u8 (b : Int) 1 = ((b ^^^ 1 : Nat) : Int) := by
  have h1 : (BitVec.ofInt 8 (b : Int)).toNat = b := by
    rw [BitVec.ofInt_natCast, BitVec.toNat_ofNat]; exact Nat.mod_eq_of_lt (by omega)
  have hx : b ^^^ 1 < 2 ^ 8 := Nat.xor_lt_two_pow (by omega) (by omega)
  show IntKind.u8.wrap ((BitVec.ofInt 8 (b : Int) ^^^ BitVec.ofInt 8 1).toNat : Int) = _
  rw [BitVec.toNat_xor, h1, show (BitVec.ofInt 8 1).toNat = 1 from rfl]
  simp [IntKind.wrap, IntKind.signed, IntKind.bits]
  omega
theorem back_st {c i b : Nat} (hc : c < 18446744073709551616) (hi : i < 8) (hb : b < 256) : st (st c i b) i (byt c i) = c := by
  refine byt_ext (st_lt (st_lt hc hb hi) (byt_lt _ _) hi) hc fun j hj => ?_
  rw [byt_st (byt_lt _ _) hi hj]
  split
  · subst_vars; rfl
  · rename_i h; rw [byt_st hb hi hj, if_neg h]

set_option maxRecDepth 100000 in
set_option maxHeartbeats 4000000 in
theorem masksWalk (c : Nat) (i : Int) (b : Nat) (hc : c < 18446744073709551616) (hb : b < 256) (w : World) :
    Calls Try.prog 3 #[.int .u64 c, .int .i64 i, .int .u8 b] w (SayPost w (.bool true)) := by
  by_cases hin : 0 ≤ i ∧ i < 8
  · obtain ⟨n, rfl⟩ : ∃ n : Nat, i = n := ⟨i.toNat, by omega⟩
    have hn : n < 8 := by omega
    clear hin
    have KA := awake_any w
    have KS := set_ok c n b hc hn hb w
    obtain ⟨d, hd⟩ : ∃ d, st c n b = d := ⟨_, rfl⟩
    have hdl : d < 18446744073709551616 := by rw [← hd]; exact st_lt hc hb hn
    have hdn : byt d n = b := by rw [← hd, byt_st hb hn hn, if_pos rfl]
    have hdo : ∀ j, j < 8 → j ≠ n → byt d j = byt c j := fun j hj h => by rw [← hd, byt_st hb hn hj, if_neg h]
    have KB := set_ok d n (byt c n) hdl hn (byt_lt _ _) w
    rw [show st d n (byt c n) = c by rw [← hd]; exact back_st hc hn hb] at KB
    have KG := get_ok d n hn w
    rw [hdn] at KG
    rw [hd] at KS
    have hxb : b ^^^ 1 < 256 := Nat.xor_lt_two_pow (n := 8) hb (by omega)
    have K1 := match_any d b hdl hb w
    have K2 := match_any c b hc hb w
    have K3 := match_any d (b ^^^ 1) hdl hxb w
    have K4 := empty_any d hdl w
    have K5 := full_any d hdl w
    have K6 := deleted_any d hdl w
    have K7 := open_any d hdl w
    have hp : 2 ^ n < 18446744073709551616 := by have := pow_lt9 hn; omega
    have hp0 : (((2 ^ n : Nat) : Int) == 0) = false := by have : 0 < 2 ^ n := Nat.pow_pos (by omega); simp only [beq_eq_false_iff_ne]; omega
    have hwp : IntKind.u64.wrap ((2 : Int) ^ n) = ((2 ^ n : Nat) : Int) := by rw [show ((2 : Int) ^ n) = ((2 ^ n : Nat) : Int) by norm_cast]; exact u64w hp
    have f1 : bits .and .u64 ((mt d b : Nat) : Int) ((2 ^ n : Nat) : Int) = ((2 ^ n : Nat) : Int) := by
      rw [bits_and_u64_nat _ _ (mt_lt _ _) hp, bit_on (by rw [mt_bit _ _ hn, hdn]; simp)]
    have f2 : bits .andNot .u64 ((mt d b : Nat) : Int) ((2 ^ n : Nat) : Int) = bits .andNot .u64 ((mt c b : Nat) : Int) ((2 ^ n : Nat) : Int) := by
      rw [bits_andNot_u64_nat _ _ (mt_lt _ _) hp, bits_andNot_u64_nat _ _ (mt_lt _ _) hp, but_bit]
      intro j hj
      by_cases hj8 : j < 8
      · rw [mt_bit _ _ hj8, mt_bit _ _ hj8, hdo j hj8 hj]
      · unfold mt; rw [mk_big _ hj8, mk_big _ hj8]
    have f3 : bits .and .u64 ((mt d (b ^^^ 1) : Nat) : Int) ((2 ^ n : Nat) : Int) = 0 := by
      rw [bits_and_u64_nat _ _ (mt_lt _ _) hp, bit_off (by rw [mt_bit _ _ hn, hdn]; simpa using fun h => xor1_ne b h.symm)]; rfl
    have fx := bits_xor_u8 b hb
    have fb := byt_int c n
    have f4 : bits .and .u64 ((mt d 128 : Nat) : Int) ((fl d : Nat) : Int) = 0 := by
      rw [bits_and_u64_nat _ _ (mt_lt _ _) (fl_lt _)]
      unfold mt fl
      rw [and_none (by intro j _; rw [Bool.eq_false_iff]; simp; omega)]; rfl
    have f5 : bits .and .u64 ((mt d 128 : Nat) : Int) ((mt d 254 : Nat) : Int) = 0 := by
      rw [bits_and_u64_nat _ _ (mt_lt _ _) (mt_lt _ _)]
      unfold mt
      rw [and_none (by intro j _; rw [Bool.eq_false_iff]; simp; omega)]; rfl
    have f6 : bits .and .u64 ((mt d 254 : Nat) : Int) ((fl d : Nat) : Int) = 0 := by
      rw [bits_and_u64_nat _ _ (mt_lt _ _) (fl_lt _)]
      unfold mt fl
      rw [and_none (by intro j _; rw [Bool.eq_false_iff]; simp; omega)]; rfl
    have f7 := bits_or_u64_nat _ _ (mt_lt d 128) (mt_lt d 254)
    have f8 : (bits .and .u64 ((fl d : Nat) : Int) ((2 ^ n : Nat) : Int) != 0) = decide ((b : Int) < 128) := by
      rw [bits_and_u64_nat _ _ (fl_lt _) hp]
      by_cases h : b < 128
      · rw [bit_on (by rw [fl_bit _ hn, hdn]; simp [h]), show decide ((b : Int) < 128) = true from decide_eq_true (by omega), bne, hp0]; rfl
      · rw [bit_off (by rw [fl_bit _ hn, hdn]; simp; omega), show decide ((b : Int) < 128) = false from decide_eq_false (by omega)]; rfl
    have f9 : ∀ k : Nat, (bits .and .u64 ((mt d k : Nat) : Int) ((2 ^ n : Nat) : Int) != 0) = ((b : Int) == (k : Int)) := by
      intro k
      rw [bits_and_u64_nat _ _ (mt_lt _ _) hp]
      by_cases h : b = k
      · rw [bit_on (by rw [mt_bit _ _ hn, hdn]; simp [h]), bne, hp0]; simp [h]
      · rw [bit_off (by rw [mt_bit _ _ hn, hdn]; simp [h]), show ((b : Int) == (k : Int)) = false by simp only [beq_eq_false_iff_ne]; omega]; rfl
    have f10 : (bits .and .u64 ((mt d 128 : Nat) : Int) ((2 ^ n : Nat) : Int) != 0) = ((b : Int) == 128) := f9 128
    have f11 : (bits .and .u64 ((mt d 254 : Nat) : Int) ((2 ^ n : Nat) : Int) != 0) = ((b : Int) == 254) := f9 254
    generalize 2 ^ n = B at *
    clear f9 hd hdn hdo
    generalize byt c n = bc at *
    generalize mt d b = m1 at *
    generalize mt c b = m2 at *
    generalize mt d (b ^^^ 1) = m3 at *
    generalize b ^^^ 1 = x1 at *
    generalize mt d 128 = m4 at *
    generalize fl d = m5 at *
    generalize mt d 254 = m6 at *
    generalize m4 ||| m6 = m7 at *
    go_enter Try.func3, Try.ntmps3
    go_wp2_with fail
    refine met KA ?_
    go_wp2_with fail
    refine met KS ?_
    go_wp2_with fail
    refine met K1 ?_
    go_wp2_with fail
    refine met K1 ?_
    go_wp2_with fail
    refine met K2 ?_
    go_wp2_with fail
    refine met K3 ?_
    go_wp2_with fail
    refine met KG ?_
    go_wp2_with fail
    refine met KB ?_
    go_wp2_with fail
    refine met K4 ?_
    go_wp2_with fail
    refine met K5 ?_
    go_wp2_with fail
    refine met K4 ?_
    go_wp2_with fail
    refine met K6 ?_
    go_wp2_with fail
    refine met K6 ?_
    go_wp2_with fail
    refine met K5 ?_
    go_wp2_with fail
    refine met K7 ?_
    go_wp2_with fail
    refine met K4 ?_
    go_wp2_with fail
    refine met K6 ?_
    go_wp2_with fail
    refine met K5 ?_
    go_wp2_with fail
    refine met K4 ?_
    go_wp2_with fail
    refine met K6 ?_
    go_wp2_with fail
    go_ret
    exact ⟨rfl, Ext.refl _ _⟩
  · have KA := awake_any w
    have KS := set_bad c i b (by omega) w
    have h : i < 0 ∨ 7 < i := by omega
    rcases h with h | h
    · go_enter Try.func3, Try.ntmps3
      go_wp2_with (first | (go_at_call 4; refine met KA ?_) | (go_at_call 5; refine met KS ?_))
      go_ret
      exact ⟨rfl, Ext.refl _ _⟩
    · have h2 : ¬ i < 0 := by omega
      go_enter Try.func3, Try.ntmps3
      go_wp2_with (first | (go_at_call 4; refine met KA ?_) | (go_at_call 5; refine met KS ?_))
      go_ret
      exact ⟨rfl, Ext.refl _ _⟩
end Go.Proofs.Ytfnladdjcdcbiaa
