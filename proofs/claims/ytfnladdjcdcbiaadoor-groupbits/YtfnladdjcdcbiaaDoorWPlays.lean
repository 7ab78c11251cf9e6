/-
  The walk through GroupPlays; no statement is proved here.
-/
import Derived.Test.YtfnladdjcdcbiaaDoorRef
namespace Go.Proofs.YtfnladdjcdcbiaaDoor
open Go.RowKit

theorem and127 {n : Nat} (h : n < 18446744073709551616) : bits BinOp.and IntKind.u64 (n : Int) 127 = ((n % 128 : Nat) : Int) := by
  rw [show (127 : Int) = ((127 : Nat) : Int) from rfl, bits_and_u64_nat n 127 h (by omega), show (127 : Nat) = 2 ^ 7 - 1 from rfl, Nat.and_two_pow_sub_one_eq_mod]
theorem split_any (n : Nat) (hn : n < 18446744073709551616) (w : World) : Calls Tryd.prog 10 #[.int .u64 n] w (fun e w' => e = .returned (.tuple #[.int .u64 ((n / 128 : Nat) : Int), .int .u8 ((n % 128 : Nat) : Int)]) ∧ w' = w) := by
  have e := and127 hn
  have h1 : n % 128 < 128 := Nat.mod_lt _ (by omega)
  generalize n % 128 = r at *
  go_enter Tryd.func10, Tryd.ntmps10
  go_wp2
  go_ret2
  exact ⟨rfl, rfl⟩

set_option maxRecDepth 100000 in
set_option maxHeartbeats 4000000 in
theorem playsWalk (c : Nat) (i : Int) (b n : Nat) (hc : c < 18446744073709551616) (hb : b < 256) (hn : n < 18446744073709551616) (w : World) (hT : Tb w) :
    Calls Tryd.prog 3 #[.int .u64 c, .int .i64 i, .int .u8 b, .int .u64 n] w (SayPost w (.bool true)) := by
  have KA := awake_any w
  obtain ⟨x, xe, y, hye, K1, K2, K3, K4⟩ : ∃ (x : Nat) (xe : Int) (y : Nat), True ∧ (Calls Tryd.prog 6 #[.int .u64 c, .int .i64 i] w fun e w' => e = .returned (.tuple #[.int .u8 x, .int .i64 xe]) ∧ w' = w) ∧ (Calls Tryd.prog 7 #[.int .u64 c, .int .i64 i] w fun e w' => e = .returned (.tuple #[.int .u8 x, .int .i64 xe]) ∧ w' = w) ∧ (Calls Tryd.prog 8 #[.int .u64 c, .int .i64 i, .int .u8 b] w fun e w' => e = .returned (.tuple #[.int .u64 y, .int .i64 xe]) ∧ w' = w) ∧ (Calls Tryd.prog 9 #[.int .u64 c, .int .i64 i, .int .u8 b] w fun e w' => e = .returned (.tuple #[.int .u64 y, .int .i64 xe]) ∧ w' = w) := by
    by_cases hin : 0 ≤ i ∧ i < 8
    · obtain ⟨k, rfl⟩ : ∃ k : Nat, i = k := ⟨i.toNat, by omega⟩
      have hk : k < 8 := by omega
      exact ⟨_, _, _, trivial, get_ok c k hk w, rget_ok c k hk w, set_ok c k b hc hk hb w, rset_ok c k b hc hk hb w⟩
    · have hi : i < 0 ∨ 8 ≤ i := by omega
      exact ⟨0, 2, 0, trivial, get_bad c i hi w, rget_bad c i hi w, set_bad c i b hi w, rset_bad c i b hi w⟩
  have K5 := split_any n hn w
  have K6 := told_any n hn w hT
  have hq : ((n : Int)).tdiv 128 = ((n / 128 : Nat) : Int) := by rw [Int.tdiv_eq_ediv_of_nonneg (by omega)]; omega
  have hr : ((n : Int)).tmod 128 = ((n % 128 : Nat) : Int) := by rw [Int.tmod_eq_emod_of_nonneg (by omega)]; omega
  have hnq : n / 128 < 18446744073709551616 := by omega
  have hnr : n % 128 < 128 := by omega
  generalize n / 128 = nq at *
  generalize n % 128 = nr at *
  clear hye
  go_enter Tryd.func3, Tryd.ntmps3
  go_wp2_with fail
  refine met KA ?_
  go_wp2_with fail
  refine met K1 ?_
  go_wp2_with fail
  refine met K2 ?_
  go_wp2_with fail
  refine met K3 ?_
  go_wp2_with fail
  refine met K4 ?_
  go_wp2_with fail
  refine met K5 ?_
  clear KA K1 K2 K3 K4 K5
  go_wp2_with fail
  refine K6.mono ?_
  rintro e w1 ⟨v, rfl, hL, _, hE⟩
  clear K6
  have M1 := match_any c b hc hb w1
  have M2 := rmatch_any c b w1
  have M3 := empty_any c hc w1
  have M4 := rmatch_any c 128 w1
  have M5 := deleted_any c hc w1
  have M6 := rmatch_any c 254 w1
  have M7 := open_any c hc w1
  have M8 := full_any c hc w1
  have M9 := rfull_any c w1
  have hor := bits_or_u64_nat _ _ (mt_lt c 128) (mt_lt c 254)
  have K7 := rbits_any n w1
  have hll := bsF_len n
  have HL := hid hL
  have HE := hid hE
  obtain ⟨av, cv, rfl, _⟩ := own_slice hL
  clear hL hE
  generalize mt c b = m1 at *
  generalize mt c 128 = m2 at *
  generalize mt c 254 = m3 at *
  generalize m2 ||| m3 = m4 at *
  generalize fl c = m5 at *
  generalize bsF n = L at *
  go_wp2_with fail
  refine met M1 ?_
  go_wp2_with fail
  refine met M2 ?_
  go_wp2_with fail
  refine met M3 ?_
  go_wp2_with fail
  refine met M4 ?_
  go_wp2_with fail
  refine met M5 ?_
  go_wp2_with fail
  refine met M6 ?_
  go_wp2_with fail
  refine met M7 ?_
  go_wp2_with fail
  refine met M4 ?_
  go_wp2_with fail
  refine met M6 ?_
  go_wp2_with fail
  refine met M8 ?_
  go_wp2_with fail
  refine met M9 ?_
  clear M1 M2 M3 M4 M5 M6 M7 M8 M9
  go_wp2_with fail
  refine K7.mono ?_
  rintro e w2 ⟨a2, c2, rfl, hL2, hE2⟩
  clear K7
  have K8 := sameInts_true av a2 L.length cv c2 (L.map fun x => ((x : Nat) : Int)) w2 (lst_is (HL.out.keep0 hE2)) (lst_is hL2) (by simp) (by omega)
  have HE2 := hid (HE.out.trans hE2)
  clear hL2 hE2
  go_wp2_with fail
  refine K8.mono ?_
  rintro e w3 ⟨rfl, hE3⟩
  have HE3 := hid (HE2.out.trans hE3)
  clear hE3 K8
  go_wp2_with fail
  go_ret
  exact ⟨rfl, HE3.out⟩
end Go.Proofs.YtfnladdjcdcbiaaDoor
