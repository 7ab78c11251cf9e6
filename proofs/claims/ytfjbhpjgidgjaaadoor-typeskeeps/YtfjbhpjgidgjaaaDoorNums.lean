/-
  How the program reads numbers; no statement is proved here.
-/
import Derived.Test.YtfjbhpjgidgjaaaDoorFormed
namespace Go.Proofs.YtfjbhpjgidgjaaaDoor
open Go.RowKit

def rdVal (L : List Int) (a : Nat) : Value := match rdN L a with | none => .tuple #[.int .u64 0, .int .i64 a, .bool false] | some (v, b) => .tuple #[.int .u64 v, .int .i64 b, .bool true]

theorem no_val {L : List Int} {a : Nat} (h : rdN L a = none) : Ending.returned (.tuple #[.int .u64 0, .int .i64 a, .bool false]) = .returned (rdVal L a) := by unfold rdVal; rw [h]

set_option maxRecDepth 100000 in
theorem andNot128 (c : Int) (h0 : 0 ≤ c) (h1 : c < 256) : bits .andNot .u8 c 128 = c % 128 := by
  obtain ⟨n, rfl⟩ : ∃ n : Nat, c = n := ⟨c.toNat, by omega⟩
  have : ∀ n : Fin 256, bits .andNot .u8 ((n.val : Nat) : Int) 128 = ((n.val : Nat) : Int) % 128 := by decide
  exact this ⟨n, by omega⟩

theorem scan_at (L : List Int) (k i : Nat) (n : Int) (h : k < L.length) : scan (L.drop k) i n = if lim < n + L.getD k 0 % 128 * 2 ^ (7 * i) then none else if L.getD k 0 < 128 then (if L.getD k 0 = 0 ∧ 0 < i then none else some (n + L.getD k 0 % 128 * 2 ^ (7 * i), i + 1)) else scan (L.drop (k + 1)) (i + 1) (n + L.getD k 0 % 128 * 2 ^ (7 * i)) := by
  rw [List.drop_eq_getElem_cons h, scan]
  simp [List.getD, h]

theorem pow_le {a b : Nat} (h : a ≤ b) : (2 : Int) ^ a ≤ 2 ^ b := by
  have h1 := Nat.pow_le_pow_right (n := 2) (by omega) h
  have h2 : ((2 ^ a : Nat) : Int) ≤ ((2 ^ b : Nat) : Int) := Int.ofNat_le.2 h1
  simpa using h2
def shq (z : Int) (k : Nat) : Int := z / 2 ^ (min (7 * k) 64)
theorem shr_run (w : World) (z : Int) (k : Nat) : (Op.shift .shr .u64 z .i64 (7 * (k : Int))).run Tryd.prog w = .ok (.int .u64 (shq z k)) w := by
  unfold Op.shift
  rw [if_neg (by omega)]
  have e1 : (7 * (k : Int)).toNat = 7 * k := by omega
  have e2 : IntKind.bits .u64 = 64 := rfl
  simp only [e1, e2, Sem.run_pure]
  rw [Int.fdiv_eq_ediv_of_nonneg _ (Int.le_of_lt (Int.pow_pos (by omega)))]
  rfl
theorem shq_lt {z d : Int} (k : Nat) (hz0 : 0 ≤ z) (hz1 : z ≤ 2147483647) (hd0 : 0 ≤ d) : shq z k < d ↔ z < d * 2 ^ (7 * k) := by
  have hp := pow7_pos k
  unfold shq
  by_cases h : 7 * k ≤ 64
  · rw [Nat.min_eq_left h]
    exact Int.ediv_lt_iff_lt_mul hp
  · rw [Nat.min_eq_right (by omega)]
    have e : z / 2 ^ 64 = 0 := Int.ediv_eq_zero_of_lt hz0 (by omega)
    rw [e]
    have hbig : (2 : Int) ^ 64 ≤ 2 ^ (7 * k) := pow_le (by omega)
    constructor
    · intro hd
      have : 1 * (2 : Int) ^ (7 * k) ≤ d * 2 ^ (7 * k) := Int.mul_le_mul_of_nonneg_right (by omega) (by omega)
      omega
    · intro hm
      rcases (by omega : d = 0 ∨ 0 < d) with rfl | h
      · simp at hm; omega
      · exact h
theorem shl_run (w : World) (d : Int) (k : Nat) (hd : 0 ≤ d) (h : d * 2 ^ (7 * k) ≤ 2147483647) : (Op.shift .shl .u64 d .i64 (7 * (k : Int))).run Tryd.prog w = .ok (.int .u64 (d * 2 ^ (7 * k))) w := by
  have hp := pow7_pos k
  have hm := Int.mul_nonneg hd (Int.le_of_lt hp)
  unfold Op.shift
  rw [if_neg (by omega)]
  have e1 : (7 * (k : Int)).toNat = 7 * k := by omega
  have e2 : IntKind.bits .u64 = 64 := rfl
  simp only [e1, e2, Sem.run_pure]
  have e3 : d * 2 ^ (min (7 * k) 64) = d * 2 ^ (7 * k) := by
    by_cases h' : 7 * k ≤ 64
    · rw [Nat.min_eq_left h']
    · have hbig : (2 : Int) ^ 64 ≤ 2 ^ (7 * k) := pow_le (by omega)
      rcases (by omega : d = 0 ∨ 0 < d) with rfl | h3
      · simp
      · have : 1 * (2 : Int) ^ (7 * k) ≤ d * 2 ^ (7 * k) := Int.mul_le_mul_of_nonneg_right (by omega) (by omega)
        omega
  rw [e3]
  rw [IntKind.wrap_u64, Int.emod_eq_of_lt hm (by omega)]

set_option maxRecDepth 100000 in
set_option maxHeartbeats 1000000 in
theorem read_any (a : Option Addr) (L : List Int) (n c at_ : Nat) (w : World) (hB : Bs w a L) (hn : L.length = n) (hl : n ≤ 65536) (hb : ∀ x ∈ L, 0 ≤ x ∧ x < 256) (ha : at_ ≤ n) (hc : n ≤ c) :
    Calls Tryd.prog 71 #[.slice a n c, .int .i64 at_, .int .u64 2147483647] w fun e w' => e = .returned (rdVal L at_) ∧ w' = w := by
  have HB := hid hB
  have HN := hid hn
  have HV := hid hb
  clear hB hn hb
  by_cases hn0 : n = 0
  · subst hn0
    obtain rfl : at_ = 0 := by omega
    have HR : Hid (rdN L 0 = none) := by
      show rdN L 0 = none
      unfold rdN
      rw [List.drop_eq_nil_of_le (by have := HN.out; omega)]; rfl
    cases a with
    | none =>
      go_enter Tryd.func71, Tryd.ntmps71
      go_wp2_with fail
      go_loop [25] (fun u => u = .int .i64 0) (fun _ => 0)
      case atStart => rfl
      case round =>
        subst hrel
        go_wp2_with fail
        go_ret3
        exact ⟨no_val HR.out, rfl⟩
    | some ad =>
      go_enter Tryd.func71, Tryd.ntmps71
      go_wp2_with fail
      go_loop [25] (fun u => u = .int .i64 0) (fun _ => 0)
      case atStart => rfl
      case round =>
        subst hrel
        go_wp2_with fail
        go_ret3
        exact ⟨no_val HR.out, rfl⟩
  · obtain ⟨b, o, rfl, hcell⟩ := HB.out.at_ (by intro h; have := HN.out; rw [h] at this; simp at this; omega)
    have HC := hid hcell
    clear hcell
    rcases (by omega : at_ = n ∨ at_ < n) with hen | hlt
    · subst hen
      have HR : Hid (rdN L at_ = none) := by
        show rdN L at_ = none
        unfold rdN
        rw [List.drop_eq_nil_of_le (by have := HN.out; omega)]; rfl
      rcases (by omega : at_ = c ∨ at_ < c) with hcc | hcc
      · subst hcc
        go_enter Tryd.func71, Tryd.ntmps71
        go_wp2_with fail
        go_loop [25] (fun u => u = .int .i64 0) (fun _ => 0)
        case atStart => rfl
        case round =>
          subst hrel
          go_wp2_with fail
          go_ret3
          exact ⟨no_val HR.out, rfl⟩
      · go_enter Tryd.func71, Tryd.ntmps71
        go_wp2_with fail
        go_loop [25] (fun u => u = .int .i64 0) (fun _ => 0)
        case atStart => rfl
        case round =>
          subst hrel
          go_wp2_with fail
          go_ret3
          exact ⟨no_val HR.out, rfl⟩
    · clear hn0
      go_enter Tryd.func71, Tryd.ntmps71
      go_wp2_with fail
      go_loop [6, 25] (fun v u => ∃ k : Nat, ∃ x : Int, v = .int .u64 x ∧ u = .int .i64 k ∧ k ≤ n - at_ ∧ 0 ≤ x ∧ x ≤ 2147483647 ∧ Hid (scan (L.drop (at_ + k)) k x = scan (L.drop at_) 0 0)) (fun _ u => (n - at_ - (intOf u)).toNat)
      case atStart => exact ⟨0, 0, rfl, rfl, Nat.zero_le _, by omega, by omega, rfl⟩
      case round =>
        obtain ⟨k, x, rfl, rfl, hk, hx0, hx1, hS⟩ := hrel
        by_cases hkn : k < n - at_
        · have hcl := HC.out (at_ + k) (by rw [HN.out]; omega)
          have HS := hid (scan_at L (at_ + k) k x (by rw [HN.out]; omega))
          rw [hS.out] at HS
          clear hS
          rw [← Nat.add_assoc] at hcl
          have hch : 0 ≤ L.getD (at_ + k) 0 ∧ L.getD (at_ + k) 0 < 256 := HV.out _ (by have := HN.out; simp [List.getD, show at_ + k < L.length by omega])
          generalize L.getD (at_ + k) 0 = ch at *
          obtain ⟨hc0, hc1⟩ := hch
          have hbn := andNot128 ch hc0 hc1
          have hsr := shr_run w (2147483647 - x) k
          have hq := shq_lt (z := 2147483647 - x) (d := ch % 128) k (by omega) (by omega) (by omega)
          have HD : Hid (0 ≤ ch % 128 * 2 ^ (7 * k)) := Int.mul_nonneg (by omega) (Int.le_of_lt (pow7_pos k))
          have HL : Hid (lim = 2147483647) := rfl
          generalize hy : shq (2147483647 - x) k = y at *
          have HY := hid hy
          clear hy
          by_cases hover : y < ch % 128
          · have HR : Hid (rdN L at_ = none) := by
              show rdN L at_ = none
              unfold rdN
              rw [HS.out, if_pos (by have := hq.1 hover; rw [HL.out]; omega)]; rfl
            clear hq
            go_wp2_with fail
            go_ret3
            exact ⟨no_val HR.out, rfl⟩
          · have hle : x + ch % 128 * 2 ^ (7 * k) ≤ 2147483647 := by
              have := mt hq.2 hover; omega
            have HS2 := hid (HS.out.trans (if_neg (by rw [HL.out]; omega)))
            clear hq HS
            have hsl := shl_run w (ch % 128) k (by omega) (by have := HD.out; omega)
            have hd0 := HD.out
            generalize hs : ch % 128 * 2 ^ (7 * k) = s at *
            have HSD := hid hs
            clear hs
            by_cases hlast : ch < 128
            · have HS3 := hid (HS2.out.trans (if_pos hlast))
              clear HS2
              by_cases hz : ch = 0 ∧ 0 < k
              · have HR : Hid (rdN L at_ = none) := by
                  show rdN L at_ = none
                  unfold rdN
                  rw [HS3.out, if_pos hz]; rfl
                obtain ⟨hz1, hz2⟩ := hz
                clear HS3
                have hez : (ch == 0) = true := by simpa using hz1
                clear hz1
                go_wp2_with fail
                go_ret3
                exact ⟨no_val HR.out, rfl⟩
              · have HR : Hid (rdN L at_ = some (x + s, at_ + (k + 1))) := by
                  show rdN L at_ = _
                  unfold rdN
                  rw [HS3.out, if_neg hz]; rfl
                clear HS3
                have hfin : Ending.returned (.tuple #[.int .u64 (x + s), .int .i64 ((at_ : Int) + k + 1), .bool true]) = Ending.returned (rdVal L at_) := by
                  unfold rdVal; rw [HR.out]; simp only [Int.natCast_add, Int.natCast_one, Int.add_assoc]
                have HF := hid hfin
                clear hfin
                by_cases hz1 : ch = 0
                · have hez : (ch == 0) = true := by simpa using hz1
                  obtain rfl : k = 0 := by omega
                  clear hz1 hz
                  obtain rfl : ch % 128 = s := by have := HSD.out; simpa using this
                  obtain rfl : 2147483647 - x = y := by have := HY.out; simpa [shq] using this
                  have hcl0 : w.cell? ⟨b, o + at_, none⟩ = some (.int .u8 ch) := hcl
                  have HF2 : Hid (Ending.returned (.tuple #[.int .u64 (x + ch % 128), .int .i64 ((at_ : Int) + 1), .bool true]) = Ending.returned (rdVal L at_)) := by
                    have := HF.out
                    show _ = _
                    simpa using this
                  clear hsr hsl HF HSD HY hcl
                  go_wp2_with fail
                  go_ret3
                  exact ⟨HF2.out, rfl⟩
                · have hez : (ch == 0) = false := by simpa using hz1
                  go_wp2_with fail
                  go_ret3
                  exact ⟨HF.out, rfl⟩
            · have HS3 := hid (HS2.out.trans (if_neg hlast))
              clear HS2
              go_wp2_with fail
              go_round
              case rel => exact ⟨k + 1, x + s, rfl, by go_num, by omega, by omega, by omega, HS3.out.symm⟩
              case measure => simp [intOf]; omega
        · have HR : Hid (rdN L at_ = none) := by
            show rdN L at_ = none
            unfold rdN
            rw [← hS.out, List.drop_eq_nil_of_le (by have := HN.out; omega)]; rfl
          clear hS
          go_wp2_with fail
          go_ret3
          exact ⟨no_val HR.out, rfl⟩

end Go.Proofs.YtfjbhpjgidgjaaaDoor
