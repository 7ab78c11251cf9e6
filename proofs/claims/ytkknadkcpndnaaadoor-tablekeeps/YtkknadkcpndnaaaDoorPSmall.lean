/-
  Which numbers of groups there are, and At; no statement is proved here.
-/
import Derived.Test.YtkknadkcpndnaaaDoorBase
import Derived.Test.YtkknadkcpndnaaaDoorPMath
namespace Go.Proofs.YtkknadkcpndnaaaDoor.Pr
open Go.RowKit

/-- So many groups there may be. -/
def GpI (n : Int) : Prop := ∃ G : Nat, n = G ∧ Gp G
theorem gpI_nat {G : Nat} : GpI (G : Int) ↔ Gp G := by
  refine ⟨fun ⟨H, h1, h2⟩ => ?_, fun h => ⟨G, rfl, h⟩⟩
  obtain rfl : G = H := by omega
  exact h2

theorem within_in (n G : Nat) (h : n < G) (w : World) : Calls Tryd.prog 91 #[.int .i64 n, .int .i64 G] w (fun e w' => e = .returned (.bool true) ∧ w' = w) := by
  go_enter Tryd.func91, Tryd.ntmps91
  go_wp2
  go_ret
  exact ⟨rfl, rfl⟩
theorem within_out (n G : Int) (h : n < 0 ∨ G ≤ n) (w : World) : Calls Tryd.prog 91 #[.int .i64 n, .int .i64 G] w (fun e w' => e = .returned (.bool false) ∧ w' = w) := by
  by_cases h0 : 0 ≤ n
  · have h1 : ¬ n < G := by omega
    go_enter Tryd.func91, Tryd.ntmps91
    go_wp2
    go_ret
    exact ⟨rfl, rfl⟩
  · go_enter Tryd.func91, Tryd.ntmps91
    go_wp2
    go_ret
    exact ⟨rfl, rfl⟩

theorem bits_and_i64_nat (a b : Nat) (ha : a < 9223372036854775808) (hb : b < 9223372036854775808) : bits .and .i64 (a : Int) (b : Int) = ((a &&& b : Nat) : Int) := by
  have hx : a &&& b < 2 ^ 63 := Nat.and_lt_two_pow _ (by omega)
  have h1 : (BitVec.ofInt 64 (a : Int)).toNat = a := by
    rw [BitVec.ofInt_natCast, BitVec.toNat_ofNat]; exact Nat.mod_eq_of_lt (by omega)
  have h2 : (BitVec.ofInt 64 (b : Int)).toNat = b := by
    rw [BitVec.ofInt_natCast, BitVec.toNat_ofNat]; exact Nat.mod_eq_of_lt (by omega)
  show IntKind.i64.wrap ((BitVec.ofInt 64 (a : Int) &&& BitVec.ofInt 64 (b : Int)).toNat : Int) = _
  rw [BitVec.toNat_and, h1, h2]
  generalize a &&& b = z at *
  unfold IntKind.wrap
  simp [IntKind.bits, IntKind.signed]
  omega
theorem and_i64 {n : Nat} (h1 : 1 ≤ n) (h2 : n ≤ 4096) : bits BinOp.and IntKind.i64 (n : Int) ((n : Int) - 1) = ((n &&& (n - 1) : Nat) : Int) := by
  rw [show (n : Int) - 1 = ((n - 1 : Nat) : Int) by omega]
  exact bits_and_i64_nat n (n - 1) (by omega) (by omega)

theorem allowed_yes (G : Nat) (h : Gp G) (w : World) : Calls Tryd.prog 85 #[.int .i64 G] w (fun e w' => e = .returned (.bool true) ∧ w' = w) := by
  have h1 := h.pos
  have h2 := h.le
  have e := and_i64 h1 h2
  rw [(and_gp h1 h2).2 h] at e
  have e0 : bits BinOp.and IntKind.i64 (G : Int) ((G : Int) - 1) = 0 := e
  clear e h
  go_enter Tryd.func85, Tryd.ntmps85
  go_wp2
  go_ret
  exact ⟨rfl, rfl⟩
theorem allowed_no (n : Int) (h : ¬ GpI n) (w : World) : Calls Tryd.prog 85 #[.int .i64 n] w (fun e w' => e = .returned (.bool false) ∧ w' = w) := by
  by_cases h1 : 1 ≤ n
  · by_cases h2 : n ≤ 4096
    · obtain ⟨G, rfl⟩ : ∃ G : Nat, n = G := ⟨n.toNat, by omega⟩
      have e := and_i64 (n := G) (by omega) (by omega)
      have hne : ¬ G &&& (G - 1) = 0 := fun q => h (gpI_nat.2 ((and_gp (by omega) (by omega)).1 q))
      have hne2 : ((((G &&& (G - 1) : Nat) : Int)) == 0) = false := by simp only [beq_eq_false_iff_ne]; omega
      clear h hne
      generalize G &&& (G - 1) = r at *
      go_enter Tryd.func85, Tryd.ntmps85
      go_wp2
      go_ret
      exact ⟨rfl, rfl⟩
    · clear h
      go_enter Tryd.func85, Tryd.ntmps85
      go_wp2
      go_ret
      exact ⟨rfl, rfl⟩
  · clear h
    go_enter Tryd.func85, Tryd.ntmps85
    go_wp2
    go_ret
    exact ⟨rfl, rfl⟩

theorem groups_any (n : Int) (b : Bool) (hb : b = true ↔ GpI n) (w : World) : Calls Tryd.prog 31 #[.int .i64 n] w (fun e w' => e = .returned (.bool b) ∧ w' = w) := by
  have HB := hid hb
  clear hb
  go_enter Tryd.func31, Tryd.ntmps31
  go_wp2
  go_loop [3] (fun q => ∃ k : Nat, q = .int .i64 ((2 ^ k : Nat) : Int) ∧ k ≤ 13 ∧ ∀ j, j < k → n ≠ ((2 ^ j : Nat) : Int)) (fun q => (8192 - (intOf q)).toNat)
  case atStart => exact ⟨0, rfl, by omega, fun j hj => by omega⟩
  case round =>
    obtain ⟨k, rfl, hk, hn⟩ := hrel
    have HN := hid hn
    clear hn
    have hpow : 2 ^ (k + 1) = 2 * 2 ^ k := by rw [Nat.pow_succ, Nat.mul_comm]
    by_cases hk12 : k ≤ 12
    · have hle : 2 ^ k ≤ 4096 := Nat.pow_le_pow_right (n := 2) (j := 12) (by omega) hk12
      have hpos : 0 < 2 ^ k := Nat.two_pow_pos k
      by_cases hq : ((2 ^ k : Nat) : Int) = n
      · have : b = true := HB.out.2 ⟨2 ^ k, hq.symm, k, hk12, rfl⟩
        subst this
        have hqd : ((((2 ^ k : Nat) : Int)) == n) = true := by simp [hq]
        clear HB HN hpow hq
        generalize 2 ^ k = B at *
        go_wp2
        go_ret
        exact ⟨rfl, rfl⟩
      · have hqd : ((((2 ^ k : Nat) : Int)) == n) = false := by simp only [beq_eq_false_iff_ne]; exact hq
        have HN2 : Hid (∀ j, j < k + 1 → n ≠ ((2 ^ j : Nat) : Int)) := fun j hj => by
          by_cases e : j = k
          · subst e; exact fun q => hq q.symm
          · exact HN.out j (by omega)
        have HP := hid hpow
        clear HN hq hpow
        generalize hB : 2 ^ k = B at *
        clear hB
        go_wp2
        go_round
        case rel => exact ⟨k + 1, by rw [HP.out]; simp, by omega, HN2.out⟩
        case measure => simp [intOf]; omega
    · obtain rfl : k = 13 := by omega
      have : b = false := by
        rw [Bool.eq_false_iff]
        intro hb
        obtain ⟨G, rfl, j, hj, rfl⟩ := HB.out.1 hb
        exact HN.out j (by omega) rfl
      subst this
      clear HB HN hpow
      go_wp2
      go_ret
      exact ⟨rfl, rfl⟩

/-! ### At -/
theorem mul_i {i G : Nat} (hi : i < G) (hG : G ≤ 4096) : IntKind.u64.wrap ((i : Int) * ((i : Int) + 1)) / 2 = ((tri i : Nat) : Int) := by
  have h1 := tri_two i
  have h2 : i * (i + 1) ≤ 4095 * 4096 := Nat.mul_le_mul (by omega) (by omega)
  have h3 : (i : Int) * ((i : Int) + 1) = ((i * (i + 1) : Nat) : Int) := by norm_cast
  rw [h3, ← h1, IntKind.wrap_u64]
  omega
theorem at_mod {h G i : Nat} (hG : Gp G) : IntKind.u64.wrap ((h : Int) + ((tri i : Nat) : Int)) % (G : Int) = ((pl h G i : Nat) : Int) := by
  obtain ⟨k, hk, rfl⟩ := hG
  unfold pl
  have hd : (2 ^ k) ∣ (18446744073709551616 : Nat) := Nat.pow_dvd_pow 2 (show k ≤ 64 by omega)
  rw [IntKind.wrap_u64]
  have : ((h : Int) + ((tri i : Nat) : Int)) % 18446744073709551616 = (((h + tri i) % 18446744073709551616 : Nat) : Int) := by omega
  rw [this, ← Int.natCast_emod, Nat.mod_mod_of_dvd _ hd]

theorem at_ok (h G i : Nat) (hG : Gp G) (hi : i < G) (w : World) : Calls Tryd.prog 80 #[.int .u64 h, .int .i64 G, .int .i64 i] w (fun e w' => e = .returned (.tuple #[.int .i64 (pl h G i), .int .i64 0]) ∧ w' = w) := by
  have K1 := allowed_yes G hG w
  have K2 := within_in i G hi w
  have hpos := hG.pos
  have hle := hG.le
  have e1 := mul_i hi hle
  have e2 := at_mod (h := h) (i := i) hG
  rw [← Int.tmod_eq_emod_of_nonneg (by rw [IntKind.wrap_u64]; omega)] at e2
  have hpl := pl_lt h hpos i
  have htl := tri_lt hi hle
  clear hG
  generalize pl h G i = r at *
  generalize tri i = t at *
  go_enter Tryd.func80, Tryd.ntmps80
  go_wp2_with fail
  refine met K1 ?_
  go_wp2_with fail
  refine met K2 ?_
  clear K1 K2
  go_wp2
  go_ret2
  exact ⟨rfl, rfl⟩
theorem at_bad (h : Nat) (G i : Int) (hb : ¬ GpI G ∨ i < 0 ∨ G ≤ i) (w : World) : Calls Tryd.prog 80 #[.int .u64 h, .int .i64 G, .int .i64 i] w (fun e w' => e = .returned (.tuple #[.int .i64 0, .int .i64 2]) ∧ w' = w) := by
  by_cases hG : GpI G
  · obtain ⟨g, rfl, hg⟩ := hG
    have K1 := allowed_yes g hg w
    have K2 := within_out i g (hb.resolve_left (fun q => q (gpI_nat.2 hg))) w
    clear hb hg
    go_enter Tryd.func80, Tryd.ntmps80
    go_wp2_with fail
    refine met K1 ?_
    go_wp2_with fail
    refine met K2 ?_
    clear K1 K2
    go_wp2
    go_ret2
    exact ⟨rfl, rfl⟩
  · have K1 := allowed_no G hG w
    clear hb hG
    go_enter Tryd.func80, Tryd.ntmps80
    go_wp2_with fail
    refine met K1 ?_
    clear K1
    go_wp2
    go_ret2
    exact ⟨rfl, rfl⟩
end Go.Proofs.YtkknadkcpndnaaaDoor.Pr
