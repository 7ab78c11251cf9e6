/-
  PMath, PSmall, PIter, TBase, Near, TMath: joined by program; no statement is proved here.
-/
import Derived.ProofKit
import Derived.Test.YtkfagfdefkaenaaDoorZA
/-
  Triangular numbers modulo a power of two; no statement is proved here.
-/
namespace Go.Proofs.YtkfagfdefkaenaaDoor.Pr

/-- The sum of the numbers up to i. -/
def tri : Nat → Nat
  | 0 => 0
  | i + 1 => tri i + (i + 1)
theorem tri_two (i : Nat) : 2 * tri i = i * (i + 1) := by
  induction i with
  | zero => rfl
  | succ n ih => rw [tri, Nat.mul_add, ih, ← Nat.add_mul, Nat.mul_comm]
theorem tri_div (i : Nat) : i * (i + 1) / 2 = tri i := by rw [← tri_two]; omega
theorem tri_lt {i n : Nat} (h : i < n) (hn : n ≤ 4096) : tri i < 16777216 := by
  have h1 := tri_two i
  have h2 : i * (i + 1) ≤ 4095 * 4096 := Nat.mul_le_mul (by omega) (by omega)
  omega

/-- Place number i. -/
def pl (h G i : Nat) : Nat := (h + tri i) % G
/-- The order of all places. -/
def sq (h G : Nat) : List Nat := (List.range G).map (pl h G)
theorem sq_len (h G : Nat) : (sq h G).length = G := by simp [sq]
theorem sq_at (h G : Nat) {i : Nat} (hi : i < G) : (sq h G)[i]? = some (pl h G i) := by simp [sq, hi]
theorem sq_take (h G k : Nat) (hk : k < G) : (sq h G).take (k + 1) = (sq h G).take k ++ [pl h G k] := by
  rw [List.take_add_one, sq_at h G hk]; rfl
theorem pl_lt (h : Nat) {G : Nat} (hG : 0 < G) (i : Nat) : pl h G i < G := Nat.mod_lt _ hG
theorem pl_zero (h G : Nat) : pl h G 0 = h % G := rfl
theorem pl_step (h G i : Nat) : pl h G (i + 1) = (pl h G i + (i + 1)) % G := by
  unfold pl
  rw [tri, Nat.mod_add_mod, Nat.add_assoc]
theorem pl_mod (h G i : Nat) : pl (h % G) G i = pl h G i := by
  unfold pl
  rw [Nat.mod_add_mod]
theorem sq_mod (h G : Nat) : sq (h % G) G = sq h G := by
  unfold sq
  congr 1
  funext i
  exact pl_mod h G i

/-- Numbers of groups. -/
def Gp (G : Nat) : Prop := ∃ k, k ≤ 12 ∧ G = 2 ^ k
theorem Gp.pos {G : Nat} (h : Gp G) : 0 < G := by obtain ⟨k, _, rfl⟩ := h; exact Nat.two_pow_pos k
theorem Gp.le {G : Nat} (h : Gp G) : G ≤ 4096 := by
  obtain ⟨k, hk, rfl⟩ := h
  exact Nat.pow_le_pow_right (n := 2) (j := 12) (by omega) hk

theorem odd_cop (k a b : Nat) (hb : b % 2 = 1) (h : 2 ^ k ∣ a * b) : 2 ^ k ∣ a := by
  have hc : Nat.Coprime (2 ^ k) b := by
    refine Nat.Coprime.pow_left k ?_
    unfold Nat.Coprime
    rw [Nat.gcd_rec, hb]
    rfl
  exact hc.dvd_of_dvd_mul_right h

theorem pl_inj {h G i j : Nat} (hG : Gp G) (hi : i < G) (hj : j < G) (e : pl h G i = pl h G j) : i = j := by
  have key : ∀ i j, i < j → j < G → (h + tri i) % G = (h + tri j) % G → False := by
    intro i j hij hj e
    obtain ⟨k, _, rfl⟩ := hG
    have h1 := tri_two i
    have h2 := tri_two j
    have hle : tri i ≤ tri j := by
      have : i * (i + 1) ≤ j * (j + 1) := Nat.mul_le_mul (by omega) (by omega)
      omega
    have hd : 2 ^ k ∣ tri j - tri i := by
      have := Nat.dvd_of_mod_eq_zero (Nat.sub_mod_eq_zero_of_mod_eq e.symm)
      rwa [Nat.add_sub_add_left] at this
    have hd2 : 2 ^ (k + 1) ∣ 2 * (tri j - tri i) := by
      rw [Nat.pow_succ, Nat.mul_comm]
      exact Nat.mul_dvd_mul_left 2 hd
    obtain ⟨d, rfl⟩ : ∃ d, j = i + d := ⟨j - i, by omega⟩
    have hp : 2 * (tri (i + d) - tri i) = d * (2 * i + d + 1) := by
      rw [Nat.mul_sub, h1, h2]
      have : (i + d) * (i + d + 1) = i * (i + 1) + d * (2 * i + d + 1) := by
        simp only [Nat.mul_add, Nat.add_mul, Nat.mul_one]
        have e1 : d * i = i * d := Nat.mul_comm _ _
        have e2 : d * (2 * i) = 2 * (i * d) := by rw [Nat.mul_left_comm, e1]
        omega
      omega
    rw [hp] at hd2
    have hk : 2 ^ (k + 1) = 2 * 2 ^ k := by rw [Nat.pow_succ, Nat.mul_comm]
    by_cases hodd : d % 2 = 1
    · have := odd_cop (k + 1) (2 * i + d + 1) d hodd (by rwa [Nat.mul_comm])
      have := Nat.le_of_dvd (by omega) this
      omega
    · have := odd_cop (k + 1) d (2 * i + d + 1) (by omega) hd2
      have := Nat.le_of_dvd (by omega) this
      omega
  unfold pl at e
  rcases Nat.lt_trichotomy i j with q | q | q
  · exact (key i j q hj e).elim
  · exact q
  · exact (key j i q hi e.symm).elim

theorem onto (n : Nat) : ∀ f : Nat → Nat, (∀ i, i < n → f i < n) → (∀ i j, i < n → j < n → f i = f j → i = j) → ∀ g, g < n → ∃ i, i < n ∧ f i = g := by
  induction n with
  | zero => intro f _ _ g hg; omega
  | succ n ih =>
    intro f hlt hinj g hg
    by_cases h0 : g = f n
    · exact ⟨n, by omega, h0.symm⟩
    have hfn := hlt n (by omega)
    have hne : ∀ i, i < n → f i ≠ f n := fun i hi e => by have := hinj i n (by omega) (by omega) e; omega
    obtain ⟨i, hi, e⟩ := ih (fun i => if f i = n then f n else f i) (fun i hi => by
        have h1 := hlt i (by omega)
        have h2 := hne i hi
        show (if f i = n then f n else f i) < n
        split <;> omega) (fun i j hi hj e => by
        have h2 := hne i hi
        have h3 := hne j hj
        refine hinj i j (by omega) (by omega) ?_
        revert e
        show (if f i = n then f n else f i) = (if f j = n then f n else f j) → f i = f j
        split <;> split <;> omega) (if g = n then f n else g) (by split <;> omega)
    refine ⟨i, by omega, ?_⟩
    have h2 := hne i hi
    revert e
    show (if f i = n then f n else f i) = (if g = n then f n else g) → f i = g
    split <;> split <;> omega

theorem pl_onto {h G g : Nat} (hG : Gp G) (hg : g < G) : ∃ i, i < G ∧ pl h G i = g :=
  onto G (pl h G) (fun i _ => pl_lt h hG.pos i) (fun _ _ hi hj e => pl_inj hG hi hj e) g hg

/-! ### numbers of groups, as both sides tell them -/
theorem gp_list {G : Nat} : Gp G ↔ G ∈ [1, 2, 4, 8, 16, 32, 64, 128, 256, 512, 1024, 2048, 4096] := by
  constructor
  · rintro ⟨k, hk, rfl⟩
    have : k = 0 ∨ k = 1 ∨ k = 2 ∨ k = 3 ∨ k = 4 ∨ k = 5 ∨ k = 6 ∨ k = 7 ∨ k = 8 ∨ k = 9 ∨ k = 10 ∨ k = 11 ∨ k = 12 := by omega
    rcases this with rfl | rfl | rfl | rfl | rfl | rfl | rfl | rfl | rfl | rfl | rfl | rfl | rfl <;> decide
  · intro h
    simp only [List.mem_cons, List.not_mem_nil, or_false] at h
    rcases h with rfl | rfl | rfl | rfl | rfl | rfl | rfl | rfl | rfl | rfl | rfl | rfl | rfl
    · exact ⟨0, by omega, rfl⟩
    · exact ⟨1, by omega, rfl⟩
    · exact ⟨2, by omega, rfl⟩
    · exact ⟨3, by omega, rfl⟩
    · exact ⟨4, by omega, rfl⟩
    · exact ⟨5, by omega, rfl⟩
    · exact ⟨6, by omega, rfl⟩
    · exact ⟨7, by omega, rfl⟩
    · exact ⟨8, by omega, rfl⟩
    · exact ⟨9, by omega, rfl⟩
    · exact ⟨10, by omega, rfl⟩
    · exact ⟨11, by omega, rfl⟩
    · exact ⟨12, by omega, rfl⟩

theorem and_list : (List.range 4097).all (fun n => (decide (1 ≤ n) && decide (n &&& (n - 1) = 0)) == decide (n ∈ [1, 2, 4, 8, 16, 32, 64, 128, 256, 512, 1024, 2048, 4096])) = true := by decide +kernel
theorem and_gp {n : Nat} (h1 : 1 ≤ n) (h2 : n ≤ 4096) : n &&& (n - 1) = 0 ↔ Gp n := by
  have := List.all_eq_true.1 and_list n (by simp; omega)
  rw [gp_list]
  simp only [h1, decide_true, Bool.true_and, beq_iff_eq] at this
  exact decide_eq_decide.1 this
end Go.Proofs.YtkfagfdefkaenaaDoor.Pr

/-
  Which numbers of groups there are, and At; no statement is proved here.
-/
namespace Go.Proofs.YtkfagfdefkaenaaDoor.Pr
open Go.RowKit

/-- So many groups there may be. -/
def GpI (n : Int) : Prop := ∃ G : Nat, n = G ∧ Gp G
theorem gpI_nat {G : Nat} : GpI (G : Int) ↔ Gp G := by
  refine ⟨fun ⟨H, h1, h2⟩ => ?_, fun h => ⟨G, rfl, h⟩⟩
  obtain rfl : G = H := by omega
  exact h2

theorem within_in (n G : Nat) (h : n < G) (w : World) : Calls Tryd.prog 118 #[.int .i64 n, .int .i64 G] w (fun e w' => e = .returned (.bool true) ∧ w' = w) := by
  go_enter Tryd.func118, Tryd.ntmps118
  go_wp2
  go_ret
  exact ⟨rfl, rfl⟩
theorem within_out (n G : Int) (h : n < 0 ∨ G ≤ n) (w : World) : Calls Tryd.prog 118 #[.int .i64 n, .int .i64 G] w (fun e w' => e = .returned (.bool false) ∧ w' = w) := by
  by_cases h0 : 0 ≤ n
  · have h1 : ¬ n < G := by omega
    go_enter Tryd.func118, Tryd.ntmps118
    go_wp2
    go_ret
    exact ⟨rfl, rfl⟩
  · go_enter Tryd.func118, Tryd.ntmps118
    go_wp2
    go_ret
    exact ⟨rfl, rfl⟩

theorem bits_and_i64_nat (a b : Nat) (ha : a < 9223372036854775808) (hb : b < 9223372036854775808) : bits .and .i64 (a : Int) (b : Int) = ((a &&& b : Nat) : Int) := by
  have hx : a &&& b < 2 ^ 63 := Nat.and_lt_two_pow _ (by omega)
  have h1 : (BitVec.ofInt 64 (a : Int)).toNat = a := by
    rw [BitVec.ofInt_natCast, BitVec.toNat_ofNat]; exact Nat.mod_eq_of_lt (by omega)
  have h2 : (BitVec.ofInt 64 (b : Int)).toNat = b := by
    rw [BitVec.ofInt_natCast, BitVec.toNat_ofNat]; exact Nat.mod_eq_of_lt (by omega)
  show IntKind.i64.wrap ((BitVec.ofInt 64 (a : Int) &&& BitVec.ofInt 64 (b : Int)).toNat : Int) = _
  rw [BitVec.toNat_and, h1, h2]
  generalize a &&& b = z at *
  unfold IntKind.wrap
  simp [IntKind.bits, IntKind.signed]
  omega
theorem and_i64 {n : Nat} (h1 : 1 ≤ n) (h2 : n ≤ 4096) : bits BinOp.and IntKind.i64 (n : Int) ((n : Int) - 1) = ((n &&& (n - 1) : Nat) : Int) := by
  rw [show (n : Int) - 1 = ((n - 1 : Nat) : Int) by omega]
  exact bits_and_i64_nat n (n - 1) (by omega) (by omega)

theorem allowed_yes (G : Nat) (h : Gp G) (w : World) : Calls Tryd.prog 117 #[.int .i64 G] w (fun e w' => e = .returned (.bool true) ∧ w' = w) := by
  have h1 := h.pos
  have h2 := h.le
  have e := and_i64 h1 h2
  rw [(and_gp h1 h2).2 h] at e
  have e0 : bits BinOp.and IntKind.i64 (G : Int) ((G : Int) - 1) = 0 := e
  clear e h
  go_enter Tryd.func117, Tryd.ntmps117
  go_wp2
  go_ret
  exact ⟨rfl, rfl⟩
theorem allowed_no (n : Int) (h : ¬ GpI n) (w : World) : Calls Tryd.prog 117 #[.int .i64 n] w (fun e w' => e = .returned (.bool false) ∧ w' = w) := by
  by_cases h1 : 1 ≤ n
  · by_cases h2 : n ≤ 4096
    · obtain ⟨G, rfl⟩ : ∃ G : Nat, n = G := ⟨n.toNat, by omega⟩
      have e := and_i64 (n := G) (by omega) (by omega)
      have hne : ¬ G &&& (G - 1) = 0 := fun q => h (gpI_nat.2 ((and_gp (by omega) (by omega)).1 q))
      have hne2 : ((((G &&& (G - 1) : Nat) : Int)) == 0) = false := by simp only [beq_eq_false_iff_ne]; omega
      clear h hne
      generalize G &&& (G - 1) = r at *
      go_enter Tryd.func117, Tryd.ntmps117
      go_wp2
      go_ret
      exact ⟨rfl, rfl⟩
    · clear h
      go_enter Tryd.func117, Tryd.ntmps117
      go_wp2
      go_ret
      exact ⟨rfl, rfl⟩
  · clear h
    go_enter Tryd.func117, Tryd.ntmps117
    go_wp2
    go_ret
    exact ⟨rfl, rfl⟩

theorem groups_any (n : Int) (b : Bool) (hb : b = true ↔ GpI n) (w : World) : Calls Tryd.prog 66 #[.int .i64 n] w (fun e w' => e = .returned (.bool b) ∧ w' = w) := by
  have HB := hid hb
  clear hb
  go_enter Tryd.func66, Tryd.ntmps66
  go_wp2
  go_loop [3] (fun q => ∃ k : Nat, q = .int .i64 ((2 ^ k : Nat) : Int) ∧ k ≤ 13 ∧ ∀ j, j < k → n ≠ ((2 ^ j : Nat) : Int)) (fun q => (8192 - (intOf q)).toNat)
  case atStart => exact ⟨0, rfl, by omega, fun j hj => by omega⟩
  case round =>
    obtain ⟨k, rfl, hk, hn⟩ := hrel
    have HN := hid hn
    clear hn
    have hpow : 2 ^ (k + 1) = 2 * 2 ^ k := by rw [Nat.pow_succ, Nat.mul_comm]
    by_cases hk12 : k ≤ 12
    · have hle : 2 ^ k ≤ 4096 := Nat.pow_le_pow_right (n := 2) (j := 12) (by omega) hk12
      have hpos : 0 < 2 ^ k := Nat.two_pow_pos k
      by_cases hq : ((2 ^ k : Nat) : Int) = n
      · have : b = true := HB.out.2 ⟨2 ^ k, hq.symm, k, hk12, rfl⟩
        subst this
        have hqd : ((((2 ^ k : Nat) : Int)) == n) = true := by simp [hq]
        clear HB HN hpow hq
        generalize 2 ^ k = B at *
        go_wp2
        go_ret
        exact ⟨rfl, rfl⟩
      · have hqd : ((((2 ^ k : Nat) : Int)) == n) = false := by simp only [beq_eq_false_iff_ne]; exact hq
        have HN2 : Hid (∀ j, j < k + 1 → n ≠ ((2 ^ j : Nat) : Int)) := fun j hj => by
          by_cases e : j = k
          · subst e; exact fun q => hq q.symm
          · exact HN.out j (by omega)
        have HP := hid hpow
        clear HN hq hpow
        generalize hB : 2 ^ k = B at *
        clear hB
        go_wp2
        go_round
        case rel => exact ⟨k + 1, by rw [HP.out]; simp, by omega, HN2.out⟩
        case measure => simp [intOf]; omega
    · obtain rfl : k = 13 := by omega
      have : b = false := by
        rw [Bool.eq_false_iff]
        intro hb
        obtain ⟨G, rfl, j, hj, rfl⟩ := HB.out.1 hb
        exact HN.out j (by omega) rfl
      subst this
      clear HB HN hpow
      go_wp2
      go_ret
      exact ⟨rfl, rfl⟩

/-! ### At -/
theorem mul_i {i G : Nat} (hi : i < G) (hG : G ≤ 4096) : IntKind.u64.wrap ((i : Int) * ((i : Int) + 1)) / 2 = ((tri i : Nat) : Int) := by
  have h1 := tri_two i
  have h2 : i * (i + 1) ≤ 4095 * 4096 := Nat.mul_le_mul (by omega) (by omega)
  have h3 : (i : Int) * ((i : Int) + 1) = ((i * (i + 1) : Nat) : Int) := by norm_cast
  rw [h3, ← h1, IntKind.wrap_u64]
  omega
theorem at_mod {h G i : Nat} (hG : Gp G) : IntKind.u64.wrap ((h : Int) + ((tri i : Nat) : Int)) % (G : Int) = ((pl h G i : Nat) : Int) := by
  obtain ⟨k, hk, rfl⟩ := hG
  unfold pl
  have hd : (2 ^ k) ∣ (18446744073709551616 : Nat) := Nat.pow_dvd_pow 2 (show k ≤ 64 by omega)
  rw [IntKind.wrap_u64]
  have : ((h : Int) + ((tri i : Nat) : Int)) % 18446744073709551616 = (((h + tri i) % 18446744073709551616 : Nat) : Int) := by omega
  rw [this, ← Int.natCast_emod, Nat.mod_mod_of_dvd _ hd]

theorem at_ok (h G i : Nat) (hG : Gp G) (hi : i < G) (w : World) : Calls Tryd.prog 92 #[.int .u64 h, .int .i64 G, .int .i64 i] w (fun e w' => e = .returned (.tuple #[.int .i64 (pl h G i), .int .i64 0]) ∧ w' = w) := by
  have K1 := allowed_yes G hG w
  have K2 := within_in i G hi w
  have hpos := hG.pos
  have hle := hG.le
  have e1 := mul_i hi hle
  have e2 := at_mod (h := h) (i := i) hG
  rw [← Int.tmod_eq_emod_of_nonneg (by rw [IntKind.wrap_u64]; omega)] at e2
  have hpl := pl_lt h hpos i
  have htl := tri_lt hi hle
  clear hG
  generalize pl h G i = r at *
  generalize tri i = t at *
  go_enter Tryd.func92, Tryd.ntmps92
  go_wp2_with fail
  refine met K1 ?_
  go_wp2_with fail
  refine met K2 ?_
  clear K1 K2
  go_wp2
  go_ret2
  exact ⟨rfl, rfl⟩
theorem at_bad (h : Nat) (G i : Int) (hb : ¬ GpI G ∨ i < 0 ∨ G ≤ i) (w : World) : Calls Tryd.prog 92 #[.int .u64 h, .int .i64 G, .int .i64 i] w (fun e w' => e = .returned (.tuple #[.int .i64 0, .int .i64 2]) ∧ w' = w) := by
  by_cases hG : GpI G
  · obtain ⟨g, rfl, hg⟩ := hG
    have K1 := allowed_yes g hg w
    have K2 := within_out i g (hb.resolve_left (fun q => q (gpI_nat.2 hg))) w
    clear hb hg
    go_enter Tryd.func92, Tryd.ntmps92
    go_wp2_with fail
    refine met K1 ?_
    go_wp2_with fail
    refine met K2 ?_
    clear K1 K2
    go_wp2
    go_ret2
    exact ⟨rfl, rfl⟩
  · have K1 := allowed_no G hG w
    clear hb hG
    go_enter Tryd.func92, Tryd.ntmps92
    go_wp2_with fail
    refine met K1 ?_
    clear K1
    go_wp2
    go_ret2
    exact ⟨rfl, rfl⟩
end Go.Proofs.YtkfagfdefkaenaaDoor.Pr

/-
  Seq and its iterator; no statement is proved here.
-/
namespace Go.Proofs.YtkfagfdefkaenaaDoor.Pr
open Go.RowKit Go.Shelf

attribute [local go_sem] Oper.semAt_some

/-- The blocks of S stay. -/
def Kq (S : List Nat) (A B : World) : Prop := ∀ q ∈ S, ∀ o, A.heap[q]? = some o → B.heap[q]? = some o
theorem Kq.refl (S : List Nat) (A : World) : Kq S A A := fun _ _ _ h => h
theorem Kq.trans {S : List Nat} {A B C : World} (h : Kq S A B) (k : Kq S B C) : Kq S A C := fun q hq o ho => k q hq o (h q hq o ho)
theorem Kq.of_ext {S T : List Nat} {A B : World} (x : Ext T A B) (h : ∀ q ∈ S, q ∉ T) : Kq S A B := fun q hq _ ho => x.keep ho (h q hq)
theorem Kq.of_below {S : List Nat} {n : Nat} {A B : World} (h : Below n A B) (h0 : ∀ q ∈ S, q < n) : Kq S A B := fun q hq _ ho => (h.block q (h0 q hq)).trans ho
theorem kq_b {S : List Nat} {w : World} (h1 : ∀ q ∈ S, q < w.heap.size) (W : World) (l : Nat) (o o' : Obj) (hl : w.heap.size ≤ l) (_ : W.heap[l]? = some o) (_ : o.isCells = false) (_ : o.isWalk = false) : Kq S W (W.putObj l o') :=
  fun q hq _ ho => (World.putObj_heap_other (by have := h1 q hq; omega)).trans ho
theorem kq_t {S : List Nat} {A B C : World} (h : Kq S A B) (k : Kq S B C) : Kq S A C := h.trans k

theorem pl_next {h G i : Nat} (_hG : G ≤ 4096) (hi : i < G) (_hp : 0 < G) (p : Nat) (hpl : p = if i = 0 then h % G else pl h G (i - 1)) : ((p : Int) + (i : Int)) % (G : Int) = ((pl h G i : Nat) : Int) := by
  subst hpl
  cases i with
  | zero =>
    simp only [if_true, pl_zero]
    norm_cast
    rw [Nat.add_zero, Nat.mod_mod]
  | succ j =>
    simp only [Nat.add_one_ne_zero, if_false, Nat.add_sub_cancel]
    rw [pl_step]
    norm_cast

set_option maxRecDepth 100000 in
set_option maxHeartbeats 2000000 in
/-- The iterator's body, for every loop body that leaves the box of the number of groups. -/
theorem each1_in (n : Nat) (hn : 2 ≤ n) (l Bf Bg : Nat) (h G : Nat) (hG : Gp G) (J Jx : List Nat → World → Prop)
    (hY : ∀ pre x W, J pre W → pre ++ [x] <+: sq h G → YieldAt Fence.wide (n - 1) Tryd.prog l #[.int .i64 (x : Nat)] W fun e W' =>
      (e = .returned (.bool true) ∧ J (pre ++ [x]) W' ∧ Kq [Bg] W W') ∨ (e = .returned (.bool false) ∧ Jx (pre ++ [x]) W'))
    (W : World) (hBf : Boxed W Bf 3 (.int .i64 (h % G : Nat))) (hBg : Boxed W Bg 3 (.int .i64 (G : Nat))) (h0 : J [] W) :
    CallsIn Fence.wide n Tryd.prog 122 #[.func (.yield l) #[] #[], .pointer (some ⟨Bf, 0, none⟩), .pointer (some ⟨Bg, 0, none⟩)] W fun e W' => (∃ v, e = .returned v) ∧
      ((∃ ys, ys = sq h G ∧ J ys W') ∨ (∃ pre, pre <+: sq h G ∧ Jx pre W')) := by
  have hc := hBf.cell
  have hc2 := hBg.cell
  have hbl := hBf.lt
  have hbg := hBg.lt
  have hpos := hG.pos
  have hle := hG.le
  have hslen := sq_len h G
  have hmod : h % G < G := Nat.mod_lt _ hpos
  have HPL := hid (fun i => pl_lt h hpos i)
  have HBG := hid hBg
  have HN := hid (fun i (hi : i < G) p hp => pl_next (h := h) (i := i) hle hi hpos p hp)
  have HTK := hid (fun k hk => sq_take h G k hk)
  refine callsIn_of_wp Tryd.func122 rfl trivial ?_ rfl
  simp only [Tryd.ntmps122, List.size_toArray, List.length_cons, List.length_nil, Nat.reduceAdd, Nat.reduceSub, Array.replicate_succ, Array.replicate_zero, List.push_toArray, List.append_toArray, List.nil_append, List.cons_append]
  have HGP := hid hG
  clear hG hBf hBg
  gi_wp2
  clear hc hc2 hbl hbg
  gi_loopw [4, 8] (fun pv q wr => ∃ (i p : Nat), q = .int .i64 i ∧ pv = .int .i64 p ∧ p < G ∧ i ≤ G ∧ (p = if i = 0 then h % G else pl h G (i - 1)) ∧ Boxed wr Bg 3 (.int .i64 (G : Nat)) ∧ J ((sq h G).take i) wr) (fun _ q _ => (G - (intOf q)).toNat)
  case atStart => exact ⟨0, h % G, rfl, rfl, hmod, by omega, by simp, HBG.out, by simpa using h0⟩
  case round =>
    clear HBG h0 hmod
    obtain ⟨i, p, rfl, rfl, hpG, hiG, hp, hB, hJ⟩ := hrel
    have hc := hB.cell
    have hbl := hB.lt
    have HB := hid hB
    clear hB
    by_cases hi : i < G
    · have hnx := HN.out i hi p hp
      have hx := HPL.out i
      have HT := hid (HTK.out i hi)
      have HP : Hid (pl h G i = if i + 1 = 0 then h % G else pl h G (i + 1 - 1)) := by show _ = _; simp
      have hlen : (sq h G).take i ++ [pl h G i] <+: sq h G := by rw [← HT.out]; exact List.take_prefix _ _
      obtain ⟨fn, tmps, assign, body, hy, hR⟩ := hY _ (pl h G i) _ hJ hlen
      have HQ := hid hslen
      clear hlen hJ hp HN HPL HTK hslen
      generalize hqx : pl h G i = x at *
      clear hqx
      gi_wp2_with fail
      refine ⟨fun _ => by omega, hR.mono ?_⟩
      rintro e W3 (⟨rfl, hJ3, hk3⟩ | ⟨rfl, hJx3⟩)
      · have HB3 := hid (show Boxed W3 Bg 3 (.int .i64 (G : Nat)) from hk3 Bg (by simp) _ HB.out)
        clear hR hy hk3
        gi_wp2
        go_roundw
        case rel => exact ⟨i + 1, x, rfl, rfl, hx, by omega, HP.out, HB3.out, by rw [HT.out]; exact hJ3⟩
        case measure => simp [intOf]; omega
      · clear hR hy
        gi_wp2
        refine bodyPost_ret (results_none rfl _ _ _) rfl ?_
        exact ⟨⟨_, rfl⟩, .inr ⟨_, by rw [← HT.out]; exact List.take_prefix _ _, hJx3⟩⟩
    · obtain rfl : i = G := by omega
      have HQ := hid hslen
      clear hp HN HPL HTK hslen
      gi_wp2
      go_end0
      exact ⟨⟨_, rfl⟩, .inl ⟨_, List.take_of_length_le (by rw [HQ.out]; omega), hJ⟩⟩

/-- The iterator's contract. -/
theorem seq_stops (n : Nat) (hn : 2 ≤ n) (Bf Bg h G : Nat) (hG : Gp G) (w : World) (hF : Boxed w Bf 3 (.int .i64 (h % G : Nat))) (hB : Boxed w Bg 3 (.int .i64 (G : Nat))) :
    SeqStopsK Fence.wide n Tryd.prog 122 #[.pointer (some ⟨Bf, 0, none⟩), .pointer (some ⟨Bg, 0, none⟩)] (fun x : {x : Nat // x < G} => #[Value.int .i64 (x.val : Nat)]) (Kq [Bg]) (fun ys => ys.map Subtype.val = sq h G) (fun pre => pre.map Subtype.val <+: sq h G) G w := by
  intro l J Jx W hW _ _ hY h0
  refine (each1_in n hn l Bf Bg h G hG (fun p W => ∃ q, q.map Subtype.val = p ∧ J q W) (fun p W => ∃ q, q.map Subtype.val = p ∧ Jx q W) ?_ W ((below_ext hW).keep hF (by simp)) ((below_ext hW).keep hB (by simp)) ⟨[], rfl, h0⟩).mono ?_
  · rintro pre x W ⟨q, rfl, hj⟩ hp
    have hx : x < G := by
      have h1 : x ∈ sq h G := hp.subset (by simp)
      obtain ⟨i, _, rfl⟩ := List.mem_map.1 h1
      exact pl_lt h hG.pos i
    have hl : q.length < G := by
      have := hp.length_le
      rw [sq_len] at this
      simp at this
      omega
    obtain ⟨fn, tmps, assign, body, hy, hR⟩ := hY q ⟨x, hx⟩ W hj hl
    refine ⟨fn, tmps, assign, body, hy, hR.mono ?_⟩
    rintro e W' (⟨rfl, h1, h2⟩ | ⟨rfl, h1⟩)
    · exact .inl ⟨rfl, ⟨q ++ [⟨x, hx⟩], by simp, h1⟩, h2⟩
    · exact .inr ⟨rfl, ⟨q ++ [⟨x, hx⟩], by simp, h1⟩⟩
  · rintro e W' ⟨hv, (⟨ys, h1, q, h2, h3⟩ | ⟨pre, h1, q, h2, h3⟩)⟩
    · exact ⟨hv, .inl ⟨q, h2.trans h1, h3⟩⟩
    · exact ⟨hv, .inr ⟨q, by show q.map _ <+: _; rw [h2]; exact h1, h3⟩⟩

theorem seq_ok (h G : Nat) (hG : Gp G) (w : World) : Calls Tryd.prog 103 #[.int .u64 h, .int .i64 G] w fun e w' =>
    e = .returned (.tuple #[.func (.func 122) #[] #[.pointer (some ⟨w.heap.size + 1, 0, none⟩), .pointer (some ⟨w.heap.size, 0, none⟩)], .int .i64 0]) ∧ w' = (w.alloc (.cells #[.int .i64 (G : Nat)] 3)).alloc (.cells #[.int .i64 (h % G : Nat)] 3) := by
  have K := allowed_yes G hG (w.alloc (.cells #[.int .i64 (G : Nat)] 3))
  have hpos := hG.pos
  have hle := hG.le
  have hm : h % G < G := Nat.mod_lt _ hpos
  have he : (h : Int) % (G : Int) = ((h % G : Nat) : Int) := by norm_cast
  clear hG
  generalize h % G = r at *
  go_enter Tryd.func103, Tryd.ntmps103
  go_wp2_with fail
  refine met K ?_
  clear K
  go_wp2
  go_ret2
  exact ⟨rfl, rfl⟩
theorem seq_bad (h : Nat) (G : Int) (hG : ¬ GpI G) (w : World) : Calls Tryd.prog 103 #[.int .u64 h, .int .i64 G] w fun e w' =>
    e = .returned (.tuple #[.func (.func 121) #[] #[], .int .i64 2]) ∧ w' = w.alloc (.cells #[.int .i64 G] 3) := by
  have K := allowed_no G hG (w.alloc (.cells #[.int .i64 G] 3))
  clear hG
  go_enter Tryd.func103, Tryd.ntmps103
  go_wp2_with fail
  refine met K ?_
  clear K
  go_wp2
  go_ret2
  exact ⟨rfl, rfl⟩

/-- What Seq's order is, and its error. -/
def ordL (h : Nat) (G : Int) (L : List Nat) (er : Int) : Prop := (∃ g : Nat, G = g ∧ Gp g ∧ L = sq h g ∧ er = 0) ∨ (¬ GpI G ∧ L = [] ∧ er = 2)
theorem ord_ex (h : Nat) (G : Int) : ∃ L er, ordL h G L er := by
  by_cases hG : GpI G
  · obtain ⟨g, rfl, hg⟩ := hG
    exact ⟨_, _, .inl ⟨g, rfl, hg, rfl, rfl⟩⟩
  · exact ⟨_, _, .inr ⟨hG, rfl, rfl⟩⟩
theorem ord_len {h : Nat} {G : Int} {L : List Nat} {er : Int} (hL : ordL h G L er) : L.length ≤ 4096 := by
  rcases hL with ⟨g, rfl, hg, rfl, rfl⟩ | ⟨_, rfl, rfl⟩
  · rw [sq_len]; exact hg.le
  · simp

end Go.Proofs.YtkfagfdefkaenaaDoor.Pr

/-
  Tables as they lie in memory, and the small functions on their places; no statement is proved here.
-/
namespace Go.Proofs.YtkfagfdefkaenaaDoor
open Go.RowKit
open Pr (Gp GpI sq pl)

attribute [local go_sem] Oper.semAt_some

theorem info37 : (Tryd.prog.info? 37).map (fun i => (i.zero, i.size, i.bytes)) = some (some (.int .u64 0), 1, 8) := by kernel_rfl

/-! ### words in memory -/
def vw (T : List Nat) : List Value := T.map fun x => Value.int .u64 (x : Nat)
theorem vw_len (T : List Nat) : (vw T).length = T.length := by simp [vw]
theorem vw_at (T : List Nat) {j : Nat} (h : j < T.length) : (vw T)[j]? = some (.int .u64 (T.getD j 0 : Nat)) := by simp [vw, h]
theorem vw_one (T : List Nat) : ∀ u ∈ vw T, u.oneCell' = true := by
  intro u hu
  obtain ⟨x, _, rfl⟩ := List.mem_map.1 hu
  rfl
theorem vw_append (A B : List Nat) : vw (A ++ B) = vw A ++ vw B := by simp [vw]
/-- A slice of words, wherever it lies. -/
def Wd (w : World) (a : Option Addr) (T : List Nat) : Prop := Vs w a (vw T)
theorem Wd.keep0 {w w' : World} {a : Option Addr} {T : List Nat} (h : Wd w a T) (e : Ext [] w w') : Wd w' a T := Vs.keep0 h e
theorem Wd.keep {S : List Nat} {w w' : World} {a : Option Addr} {T : List Nat} (h : Wd w a T) (e : Ext S w w') (hs : ∀ ad, a = some ad → ad.block ∉ S) : Wd w' a T := Vs.keep h e hs
theorem Wd.at_ {w : World} {a : Option Addr} {T : List Nat} (h : Wd w a T) (h0 : T ≠ []) : ∃ b o, a = some ⟨b, o, none⟩ ∧ ∀ j, j < T.length → w.cell? ⟨b, o + j, none⟩ = some (.int .u64 (T.getD j 0 : Nat)) := by
  rcases h with h | ⟨b, o, h, hc⟩
  · simp [vw] at h; exact absurd h h0
  · exact ⟨b, o, h, fun j hj => by rw [hc j (by rw [vw_len]; exact hj), vw_at T hj]⟩
/-- The whole row of a table of one's own, at the head of the block g. -/
def Tw (w : World) (g : Nat) (T : List Nat) : Prop := ∃ cs, w.heap[g]? = some (.cells cs 37 (0, 0)) ∧ ∀ j, j < T.length → cs[j]? = some (.int .u64 (T.getD j 0 : Nat))
theorem Tw.lt {w : World} {g : Nat} {T : List Nat} (h : Tw w g T) : g < w.heap.size := by obtain ⟨cs, h, _⟩ := h; exact lt_of_heap h
theorem Tw.cell {w : World} {g : Nat} {T : List Nat} (h : Tw w g T) {j : Nat} (hj : j < T.length) : w.cell? ⟨g, j, none⟩ = some (.int .u64 (T.getD j 0 : Nat)) := by
  obtain ⟨cs, h1, h2⟩ := h
  rw [cell_of_row _ _ _ _ _ _ h1, h2 j hj]
theorem Tw.wd {w : World} {g : Nat} {T : List Nat} (h : Tw w g T) : Wd w (some ⟨g, 0, none⟩) T :=
  .inr ⟨g, 0, rfl, fun j hj => by rw [vw_len] at hj; rw [Nat.zero_add, h.cell hj, vw_at T hj]⟩
theorem Tw.keep {S : List Nat} {w w' : World} {g : Nat} {T : List Nat} (h : Tw w g T) (e : Ext S w w') (hs : g ∉ S) : Tw w' g T := by
  obtain ⟨cs, h1, h2⟩ := h
  exact ⟨cs, e.keep h1 hs, h2⟩
theorem Tw.keep0 {w w' : World} {g : Nat} {T : List Nat} (h : Tw w g T) (e : Ext [] w w') : Tw w' g T := h.keep e (by simp)
theorem Tw.frozen {w : World} {g : Nat} {T : List Nat} (h : Tw w g T) (j : Nat) : w.frozen? ⟨g, j, none⟩ = false := by
  obtain ⟨cs, h1, _⟩ := h
  exact frozen_of_row w g j cs 37 h1
theorem getD_set {T : List Nat} {k x j : Nat} (hj : j < T.length) : (T.set k x).getD j 0 = if j = k then x else T.getD j 0 := by
  simp only [List.getD_eq_getElem?_getD, List.getElem?_set]
  split
  · rename_i h; subst h; simp [hj]
  · rename_i h; rw [if_neg (fun e => h e.symm)]
theorem Tw.set {w : World} {g : Nat} {T : List Nat} (h : Tw w g T) (k x : Nat) (hk : k < T.length) : Tw (w.setCell ⟨g, k, none⟩ (.int .u64 (x : Nat))) g (T.set k x) := by
  obtain ⟨cs, h1, h2⟩ := h
  refine ⟨cs.setIfInBounds k (.int .u64 (x : Nat)), heap_setCell_same w g k cs 37 _ h1, fun j hj => ?_⟩
  rw [List.length_set] at hj
  rw [getD_set hj, Array.getElem?_setIfInBounds]
  have hks : k < cs.size := (Array.getElem?_eq_some_iff.1 (h2 k hk)).1
  by_cases q : j = k
  · subst q; simp [hks]
  · rw [if_neg (fun e => q e.symm), if_neg q, h2 j hj]

/-! ### places -/
theorem controlAt_any (g : Nat) (hg : g ≤ 4096) (w : World) : Calls Tryd.prog 65 #[.int .i64 (g : Nat)] w fun e w' => e = .returned (.int .i64 (3 + 17 * g : Nat)) ∧ w' = w := by
  go_enter Tryd.func65, Tryd.ntmps65
  go_wp2
  go_ret
  exact ⟨by simp, rfl⟩
theorem wordsOf_any (g : Nat) (hg : g ≤ 4096) (w : World) : Calls Tryd.prog 63 #[.int .i64 (g : Nat)] w fun e w' => e = .returned (.int .i64 (3 + 17 * g : Nat)) ∧ w' = w := by
  go_enter Tryd.func63, Tryd.ntmps63
  go_wp2
  go_ret
  exact ⟨by simp, rfl⟩
theorem hashAt_any (g i : Nat) (hg : g ≤ 4096) (hi : i ≤ 8) (w : World) : Calls Tryd.prog 106 #[.int .i64 (g : Nat), .int .i64 (i : Nat)] w fun e w' => e = .returned (.int .i64 (3 + 17 * g + 1 + 2 * i : Nat)) ∧ w' = w := by
  have K := controlAt_any g hg w
  go_enter Tryd.func106, Tryd.ntmps106
  go_wp2_with (go_at_call 65; refine met K ?_)
  go_ret
  exact ⟨by simp, rfl⟩
theorem idAt_any (g i : Nat) (hg : g ≤ 4096) (hi : i ≤ 8) (w : World) : Calls Tryd.prog 70 #[.int .i64 (g : Nat), .int .i64 (i : Nat)] w fun e w' => e = .returned (.int .i64 (3 + 17 * g + 2 + 2 * i : Nat)) ∧ w' = w := by
  have K := hashAt_any g i hg hi w
  go_enter Tryd.func70, Tryd.ntmps70
  go_wp2_with (go_at_call 106; refine met K ?_)
  go_ret
  exact ⟨by simp; omega, rfl⟩
theorem groupsOf_any (a : Option Addr) (n c : Nat) (T : List Nat) (w : World) (hT : Wd w a T) (hn : T.length = n) (h0 : 0 < n) (hG : T.getD 0 0 ≤ 4096) : Calls Tryd.prog 94 #[.slice a n c] w fun e w' => e = .returned (.int .i64 (T.getD 0 0 : Nat)) ∧ w' = w := by
  obtain ⟨b, o, rfl, hc⟩ := hT.at_ (by rintro rfl; simp at hn; omega)
  have c0 := hc 0 (by omega)
  rw [Nat.add_zero] at c0
  clear hc hT
  generalize T.getD 0 0 = G at *
  go_enter Tryd.func94, Tryd.ntmps94
  go_wp2
  go_ret
  exact ⟨rfl, rfl⟩
theorem tallowed_yes (G : Nat) (hG : Gp G) (w : World) : Calls Tryd.prog 62 #[.int .i64 (G : Nat)] w fun e w' => e = .returned (.bool true) ∧ w' = w := by
  have K := Pr.at_ok 0 G 0 hG hG.pos w
  generalize pl 0 G 0 = q at *
  go_enter Tryd.func62, Tryd.ntmps62
  go_wp2_with (go_at_call 92; refine met K ?_)
  go_ret
  exact ⟨rfl, rfl⟩
theorem tallowed_no (G : Int) (hG : ¬ GpI G) (w : World) : Calls Tryd.prog 62 #[.int .i64 G] w fun e w' => e = .returned (.bool false) ∧ w' = w := by
  have K := Pr.at_bad 0 G 0 (.inl hG) w
  go_enter Tryd.func62, Tryd.ntmps62
  go_wp2_with (go_at_call 92; refine met K ?_)
  go_ret
  exact ⟨rfl, rfl⟩
theorem and127 {n : Nat} (h : n < 18446744073709551616) : bits BinOp.and IntKind.u64 (n : Int) 127 = ((n % 128 : Nat) : Int) := by
  rw [show (127 : Int) = ((127 : Nat) : Int) from rfl, bits_and_u64_nat n 127 h (by omega), show (127 : Nat) = 2 ^ 7 - 1 from rfl, Nat.and_two_pow_sub_one_eq_mod]
theorem split_any (n : Nat) (hn : n < 18446744073709551616) (w : World) : Calls Tryd.prog 102 #[.int .u64 n] w (fun e w' => e = .returned (.tuple #[.int .u64 ((n / 128 : Nat) : Int), .int .u8 ((n % 128 : Nat) : Int)]) ∧ w' = w) := by
  have e := and127 hn
  have h1 : n % 128 < 128 := Nat.mod_lt _ (by omega)
  generalize n % 128 = r at *
  go_enter Tryd.func102, Tryd.ntmps102
  go_wp2
  go_ret2
  exact ⟨rfl, rfl⟩

/-! ### how many bits -/
def pc (x : Nat) : Nat := ((List.range 8).filter fun i => x.testBit i).length
def o1 (x : Int) : Int := IntKind.u64.wrap (bits BinOp.and IntKind.u64 (x / 2) 6148914691236517205 + bits BinOp.and IntKind.u64 x 6148914691236517205)
def o2 (y : Int) : Int := IntKind.u64.wrap (bits BinOp.and IntKind.u64 (y / 4) 3689348814741910323 + bits BinOp.and IntKind.u64 y 3689348814741910323)
def o3 (z : Int) : Int := bits BinOp.and IntKind.u64 (IntKind.u64.wrap (z / 16 + z)) 1085102592571150095
def o4 (a : Int) : Int := IntKind.u64.wrap (a + a / 256)
def o5 (a : Int) : Int := IntKind.u64.wrap (a + a / 65536)
def o6 (a : Int) : Int := IntKind.u64.wrap (a + a / 4294967296)
def o7 (a : Int) : Int := bits BinOp.and IntKind.i64 (wrap64 a) 127
theorem ones_val : ∀ x, x < 256 → o7 (o6 (o5 (o4 (o3 (o2 (o1 ((x : Nat) : Int))))))) = ((pc x : Nat) : Int) := by decide +kernel
set_option maxRecDepth 10000 in
theorem ones_any (x : Nat) (hx : x < 256) (w : World) : Calls Tryd.prog 97 #[.int .u64 x] w (fun e w' => e = .returned (.int .i64 (pc x : Nat)) ∧ w' = w) := by
  have e := ones_val x hx
  go_enter Tryd.func97, Tryd.ntmps97
  go_wp2
  go_ret
  exact ⟨congrArg (fun v => Ending.returned (.int .i64 v)) e, rfl⟩
end Go.Proofs.YtkfagfdefkaenaaDoor

/-
  A loop over an iterator that is itself made with loops over iterators, and that may be left; no statement is proved here.
-/
namespace Go.Proofs.YtkfagfdefkaenaaDoor
open Go.RowKit Go.Shelf

theorem keepsFrom_put {B : Nat} {W : World} {l : Nat} {o : Obj} (h : l < B) : KeepsFrom B W (W.putObj l o) :=
  ⟨(grownBy_putObj' W l o).size, fun k _ hk h0 _ => (World.putObj_heap_other (by omega)).trans h0⟩
theorem keepsFrom_up {B B' : Nat} {A C : World} (h : KeepsFrom B A C) (hB : B ≤ B') : KeepsFrom B' A C := ⟨h.size, fun k o hk => h.same k o (Nat.le_trans hB hk)⟩

/-! ### who owns which cells -/

/-- Cells that the loop's own body does not own (O tells what it owns) stay; what it owns behind the step it owned, or it is new. -/
structure Kc (O : World → Nat → Prop) (A B : World) : Prop where
  size : A.heap.size ≤ B.heap.size
  same : ∀ k o, A.heap[k]? = some o → o.isCells = true → ¬ O A k → B.heap[k]? = some o
  back : ∀ k, O B k → O A k ∨ A.heap.size ≤ k
theorem Kc.refl (O : World → Nat → Prop) (A : World) : Kc O A A := ⟨Nat.le_refl _, fun _ _ h _ _ => h, fun _ h => .inl h⟩
theorem Kc.trans {O : World → Nat → Prop} {A B C : World} (h : Kc O A B) (k : Kc O B C) : Kc O A C := by
  refine ⟨Nat.le_trans h.size k.size, fun i o hi hc hO => ?_, fun i hi => ?_⟩
  · refine k.same i o (h.same i o hi hc hO) hc (fun q => ?_)
    rcases h.back i q with r | r
    · exact hO r
    · have := (Array.getElem?_eq_some_iff.1 hi).1; omega
  · rcases k.back i hi with q | q
    · exact h.back i q
    · exact .inr (Nat.le_trans h.size q)

/-- A step that lays blocks, or turns one that is no cells, from B on. -/
def Stp (B : Nat) (A C : World) (row : Option Nat) : Prop := A.grownBy C row ∧ ∀ r, row = some r → B ≤ r ∧ ∃ o : Obj, A.heap[r]? = some o ∧ o.isCells = false
/-- What a loop says of its invariant J and of what it owns. -/
structure Cal {β : Type} (O : World → Nat → Prop) (J : β → World → Prop) (B : Nat) : Prop where
  own : OwnFrom B J
  lt : ∀ s W k, J s W → O W k → k < W.heap.size
  back : ∀ s A C row k, J s A → Stp B A C row → O C k → O A k
theorem Cal.up {β : Type} {O : World → Nat → Prop} {J : β → World → Prop} {B B' : Nat} (h : Cal O J B) (hB : B ≤ B') : Cal O J B' :=
  ⟨fun s W W' row hs hg hr => h.own s W W' row hs hg (fun r e => ⟨Nat.le_trans hB (hr r e).1, (hr r e).2⟩), h.lt, fun s A C row k hs hS => h.back s A C row k hs ⟨hS.1, fun r e => ⟨Nat.le_trans hB (hS.2 r e).1, (hS.2 r e).2⟩⟩⟩

/-- The cells o lie at k, and they are not the loop's. -/
def Mine (O : World → Nat → Prop) (k : Nat) (o : Obj) (W : World) : Prop := W.heap[k]? = some o ∧ o.isCells = true ∧ ¬ O W k
theorem Mine.kc {O : World → Nat → Prop} {k : Nat} {o : Obj} {A B : World} (h : Mine O k o A) (x : Kc O A B) : Mine O k o B := by
  refine ⟨x.same k o h.1 h.2.1 h.2.2, h.2.1, fun q => ?_⟩
  rcases x.back k q with r | r
  · exact h.2.2 r
  · have := lt_of_heap h.1; omega
theorem Mine.stp {β : Type} {O : World → Nat → Prop} {J : β → World → Prop} {B : Nat} (c : Cal O J B) {s : β} {k : Nat} {o : Obj} {A C : World} {row : Option Nat} (hJ : J s A) (h : Mine O k o A) (x : Stp B A C row) : Mine O k o C := by
  refine ⟨(x.1.block k (lt_of_heap h.1) (fun e => ?_)).trans h.1, h.2.1, fun q => h.2.2 (c.back s A C row k hJ x q)⟩
  obtain ⟨o', ho', hc'⟩ := (x.2 k e.symm).2
  rw [h.1] at ho'
  cases ho'
  rw [h.2.1] at hc'
  cases hc'
theorem stp_drewN (B : Nat) (W : World) (n : Nat) : Stp B W (W.drewN n) none := ⟨⟨rfl, rfl, rfl, Nat.le_refl _, fun _ _ _ => rfl⟩, fun _ e => by cases e⟩
theorem stp_alloc (B : Nat) (W : World) (o : Obj) : Stp B W (W.alloc o) none := ⟨World.grownBy_alloc W o none, fun _ e => by cases e⟩
theorem Mine.new {β : Type} {O : World → Nat → Prop} {J : β → World → Prop} {B : Nat} (c : Cal O J B) {s : β} {W : World} (hJ : J s W) (o : Obj) (ho : o.isCells = true) : Mine O W.heap.size o (W.alloc o) := by
  refine ⟨World.alloc_heap_new W o, ho, fun q => ?_⟩
  have := c.lt s W _ hJ (c.back s W _ none _ hJ (stp_alloc B W o) q)
  omega
def Mines (O : World → Nat → Prop) (L : List (Nat × Obj)) (W : World) : Prop := ∀ p ∈ L, Mine O p.1 p.2 W
theorem Mines.kc {O : World → Nat → Prop} {L : List (Nat × Obj)} {A B : World} (h : Mines O L A) (x : Kc O A B) : Mines O L B := fun p hp => (h p hp).kc x
theorem Mines.stp {β : Type} {O : World → Nat → Prop} {J : β → World → Prop} {B : Nat} (c : Cal O J B) {s : β} {L : List (Nat × Obj)} {A C : World} {row : Option Nat} (hJ : J s A) (h : Mines O L A) (x : Stp B A C row) : Mines O L C := fun p hp => (h p hp).stp c hJ x
theorem Mines.cons {O : World → Nat → Prop} {L : List (Nat × Obj)} {W : World} {k : Nat} {o : Obj} (h : Mine O k o W) (hs : Mines O L W) : Mines O ((k, o) :: L) W := by
  intro p hp
  rcases List.mem_cons.1 hp with rfl | q
  · exact h
  · exact hs p q
theorem Mines.nil (O : World → Nat → Prop) (W : World) : Mines O [] W := fun _ h => by cases h
theorem Mines.tail {O : World → Nat → Prop} {L : List (Nat × Obj)} {W : World} {p : Nat × Obj} (h : Mines O (p :: L) W) : Mines O L W := fun q hq => h q (List.mem_cons_of_mem _ hq)
/-- The invariant with one's own cells beside it. -/
theorem Cal.mines {β γ : Type} {O : World → Nat → Prop} {J : β → World → Prop} {B : Nat} (c : Cal O J B) (f : γ → β) (L : List (Nat × Obj)) : OwnFrom B (fun s W => J (f s) W ∧ Mines O L W) :=
  fun s A C row hs hg hr => ⟨c.own (f s) A C row hs.1 hg hr, hs.2.stp c hs.1 ⟨hg, hr⟩⟩
theorem Kc.stp {β : Type} {O : World → Nat → Prop} {J : β → World → Prop} {B : Nat} (c : Cal O J B) {s : β} {A C : World} {row : Option Nat} (hJ : J s A) (x : Stp B A C row) : Kc O A C := by
  refine ⟨x.1.size, fun k o hk hc _ => (x.1.block k (lt_of_heap hk) (fun e => ?_)).trans hk, fun k hk => .inl (c.back s A C row k hJ x hk)⟩
  obtain ⟨o', ho', hc'⟩ := (x.2 k e.symm).2
  rw [hk] at ho'
  cases ho'
  rw [hc] at hc'
  cases hc'

/-- What an iterator gives a loop that begins in the world w. -/
def GivesS {α : Type} (F : Fence) (n : Nat) (P : Program) (gf : Nat) (lb : Array Value) (encs : α → Array Value) (O : World → Nat → Prop) (V : α → Prop) (S Sp : List α → Prop) (N : Nat) (w : World) : Prop :=
  ∀ (l : Nat) (J Jx : List α → World → Prop) (W1 : World), l < W1.heap.size → Below w.heap.size w W1 → (∀ k, k < w.heap.size → O W1 k → O w k) → Cal O J W1.heap.size → OwnFrom W1.heap.size Jx →
    (∀ pre x W, J pre W → pre.length < N → V x → YieldAt F (n - 1) P l (encs x) W fun e W' => (e = .returned (.bool true) ∧ J (pre ++ [x]) W' ∧ KeepsFrom W1.heap.size W W' ∧ Kc O W W') ∨ (e = .returned (.bool false) ∧ Jx (pre ++ [x]) W' ∧ KeepsFrom W1.heap.size W W' ∧ Kc O W W')) →
    J [] W1 → CallsIn F n P gf (#[.func (.yield l) #[] #[]] ++ lb) W1 fun e W' => (∃ v, e = .returned v) ∧ ((∃ xs, S xs ∧ J xs W') ∨ (∃ pre, Sp pre ∧ Jx pre W'))

/-- How the body of a round may be left. -/
def ownPostC {α : Type} (B : Nat) (O : World → Nat → Prop) (I : List α → World → Prop) (Ix : Code → List α → World → Prop) (xs : List α) (W : World) : Exit → Act → World → Prop
  | .normal, _, W' => KeepsFrom B W W' ∧ Kc O W W' ∧ I xs W'
  | .ret, _, W' => KeepsFrom B W W' ∧ Kc O W W' ∧ Ix .ret xs W'
  | .exit id, _, W' => KeepsFrom B W W' ∧ Kc O W W' ∧ Ix (.exit id) xs W'
  | .goto _, _, _ => False
  | .panic _, _, _ => False
  | .outgrown, _, _ => False
/-- The law of such a loop. -/
theorem loop_givesS {F : Fence} {n : Nat} {P : Program} {α : Type} {g : Operand} {ps : Array Tmp} {assign body : Code} {Q : Exit → Act → World → Prop} {a : Act} {w : World}
    (hro : F.round = none) (h1 : 1 ≤ n) {gf : Nat} {lb : Array Value} (hg : a.eval g = .func (.func gf) #[] lb) (hFg : F.fn gf) (eg : ∀ args w, (callFunc gf args).run P w = .ok (.enter gf args) w)
    {encs : α → Array Value} {O : World → Nat → Prop} {V : α → Prop} {S Sp : List α → Prop} {N : Nat} (hseq : GivesS F (n - 1) P gf lb encs O V S Sp N w) (hps : ∀ x, (encs x).size = ps.size)
    (I : List α → World → Prop) (Ix : Code → List α → World → Prop) (hI : Cal O I w.heap.size) (hIx : ∀ c, Cal O (Ix c) w.heap.size) (h0 : I [] w) (Ax : α → Act → World → Prop) (hAx : ∀ x a', OwnFrom w.heap.size (fun (_ : Unit) W => Ax x a' W))
    (hassign : ∀ (l : Nat) (pre : List α) (x : α) (W : World) (K : Act → World → Prop), V x → I pre W → (∀ a' W', KeepsFrom w.heap.size W W' → Kc O W W' → I pre W' → Ax x a' W' → K a' W') →
      assign.wpIn (F.inRound l) (n - 1 - 1) P (Exit.then K (fun _ _ _ => False)) { tmps := (ps.zip (encs x)).foldl (fun t (p, v) => t.setIfInBounds p v) a.tmps, defers := [] } W)
    (hbody : ∀ (l : Nat) (pre : List α) (x : α) (a' : Act) (W : World), w.heap.size ≤ l → (∃ r, W.heap[l]? = some (.loop r)) → I pre W → Ax x a' W → pre.length < N → V x → body.wpIn (F.inRound l) (n - 1 - 1) P (ownPostC w.heap.size O I Ix (pre ++ [x]) W) a' W)
    (hdone : ∀ (D : Nat) (xs : List α) (W : World), w.heap.size ≤ D → S xs → I xs W → W.heap[D]? = some (.deferred (some [])) → Q .normal { a with defers := { target := .collected D, args := #[] } :: a.defers } W)
    (hstop : ∀ (D : Nat) (c : Code) (pre : List α) (W : World), w.heap.size ≤ D → Sp pre → Ix c pre W → W.heap[D]? = some (.deferred (some [])) → c.wpIn F n P Q { a with defers := { target := .collected D, args := #[] } :: a.defers } W) :
    (Code.rangeFunc g ps assign body).wpIn F n P Q a w := by
  refine wpIn_rangeFunc fun fn hfn => ?_
  rw [hro]
  obtain ⟨s, hs⟩ : ∃ s, s = w.heap.size := ⟨_, rfl⟩
  obtain ⟨rec, hrec⟩ : ∃ rec : LoopState → Option Code → Loop, rec = fun st pe => { state := st, pending := pe, fn, tmps := a.tmps, params := ps, assign, body, defers := w.heap.size } := ⟨_, rfl⟩
  obtain ⟨W1, hW1⟩ : ∃ W1, (w.alloc (.deferred (some []))).alloc (.loop (rec .ready none)) = W1 := ⟨_, rfl⟩
  have hz1 : W1.heap.size = s + 2 := by rw [← hW1]; simp [hs]
  have hL1 : W1.heap[s + 1]? = some (.loop (rec .ready none)) := by
    have h := World.alloc_heap_new (w.alloc (.deferred (some []))) (.loop (rec .ready none))
    rw [World.size_alloc, ← hs, hW1] at h; exact h
  have hK1 : W1.heap[s]? = some (.deferred (some [])) := by
    rw [← hW1, hs]; exact (Below.heap_alloc _ _ _ (by simp)).trans (World.alloc_heap_new w _)
  have hI1' : I [] (w.alloc (.deferred (some []))) := hI.own.alloc _ h0
  have hI1 : I [] W1 := by rw [← hW1]; exact hI.own.alloc _ hI1'
  have hO1 : ∀ k, k < w.heap.size → O W1 k → O w k := fun k _ hk => by
    rw [← hW1] at hk
    exact hI.back [] _ _ none k h0 (stp_alloc _ _ _) (hI.back [] _ _ none k hI1' (stp_alloc _ _ _) hk)
  have hb1 : Below w.heap.size w W1 := by rw [← hW1]; exact ((Below.refl _ w).alloc (Nat.le_refl _) _).alloc (by simp) _
  refine ⟨s + 1, [{ target := .collected s, args := #[] }], W1, { target := .fn (.func gf) lb, args := #[.func (.yield (s + 1)) #[] #[]] }, W1, gf, #[.func (.yield (s + 1)) #[] #[]] ++ lb, W1, ?_, ?_, ?_, ?_, fun _ => h1, ?_⟩
  · rw [← hW1, hrec, hs]; exact run_enterLoop_outer _ _ _ _ _
  · simp only [resolve, hg]
    simp [go_sem]
  · intro f' hf'; simp [Target.leads] at hf'; subst hf'; exact hFg
  · simp [invoke, go_sem, eg]
  · have hrow : ∀ {A B : World} {row : Option Nat}, (∀ r, row = some r → W1.heap.size ≤ r ∧ ∃ o : Obj, A.heap[r]? = some o ∧ o.isCells = false) → (∀ r, row = some r → w.heap.size ≤ r ∧ ∃ o : Obj, A.heap[r]? = some o ∧ o.isCells = false) :=
      fun hr r e => ⟨by have := (hr r e).1; omega, (hr r e).2⟩
    have hbook : ∀ (q : Loop) {A B : World} {row : Option Nat}, A.grownBy B row → (∀ r, row = some r → W1.heap.size ≤ r ∧ ∃ o : Obj, A.heap[r]? = some o ∧ o.isCells = false) → A.heap[s + 1]? = some (.loop q) → A.heap[s]? = some (.deferred (some [])) → B.heap[s + 1]? = some (.loop q) ∧ B.heap[s]? = some (.deferred (some [])) := fun q {A B row} hg' hr hl hk => by
      have hne : ∀ k, k < s + 2 → some k ≠ row := fun k hk e => by have := (hr k e.symm).1; omega
      exact ⟨(hg'.block _ (Array.getElem?_eq_some_iff.1 hl).1 (hne _ (by omega))).trans hl, (hg'.block _ (Array.getElem?_eq_some_iff.1 hk).1 (hne _ (by omega))).trans hk⟩
    refine (hseq (s + 1) (fun pre W => I pre W ∧ W.heap[s + 1]? = some (.loop (rec .ready none)) ∧ W.heap[s]? = some (.deferred (some [])))
      (fun pre W => ∃ c, Ix c pre W ∧ W.heap[s + 1]? = some (.loop (rec .done (some c))) ∧ W.heap[s]? = some (.deferred (some []))) W1 (by omega) hb1 hO1
      ⟨fun q A B row hq hg' hr => ⟨hI.own q A B row hq.1 hg' (hrow (B := B) hr), hbook _ hg' hr hq.2.1 hq.2.2⟩, fun q W k hq => hI.lt q W k hq.1, fun q A C row k hq hS => hI.back q A C row k hq.1 ⟨hS.1, hrow (B := C) hS.2⟩⟩
      (fun q A B row hq hg' hr => by obtain ⟨c, hc, hl, hk⟩ := hq; exact ⟨c, (hIx c).own q A B row hc hg' (hrow (B := B) hr), hbook _ hg' hr hl hk⟩) ?_ ⟨hI1, hL1, hK1⟩).mono ?_
    · rintro pre x W ⟨hi, hl, hk⟩ hlen hvx
      have hy := run_yield (P := P) (args := encs x) hl (by rw [hrec]; exact hps x)
      rw [hrec] at hy
      refine ⟨fn, _, assign, body, hy, roundIn_of_wpIn hfn (hassign _ pre x W _ hvx hi ?_)⟩
      clear hy
      intro a' V hkf hkp hiV hax
      have hlV := hkf.same _ _ (by omega) hl rfl
      have hkV := hkf.same _ _ (by omega) hk rfl
      have hlt : s + 1 < V.heap.size := (Array.getElem?_eq_some_iff.1 hlV).1
      refine ⟨_, run_beginRound hlV (by rw [hrec]), ?_⟩
      have hl2 : (V.putObj (s + 1) (.loop { rec .ready none with state := .busy })).heap[s + 1]? = some (.loop { rec .ready none with state := .busy }) := World.putObj_heap_same hlt
      have hk2 : (V.putObj (s + 1) (.loop { rec .ready none with state := .busy })).heap[s]? = some (.deferred (some [])) := (World.putObj_heap_other (by omega)).trans hkV
      have hput : ∀ (W : World) (o o' : Obj), W.heap[s + 1]? = some o → o.isCells = false → Stp w.heap.size W (W.putObj (s + 1) o') (some (s + 1)) := fun W o o' ho hc => ⟨grownBy_putObj' W _ _, fun r e => by cases e; exact ⟨by omega, o, ho, hc⟩⟩
      have hkp1 := Kc.stp hI hiV (hput V _ (.loop { rec .ready none with state := .busy }) hlV rfl)
      refine wpIn_mono (hbody _ pre x a' _ (by omega) ⟨_, hl2⟩ (hI.own.putObj _ hiV (by omega) hlV rfl) ((hAx x a').putObj (s := ()) _ hax (by omega) hlV rfl) hlen hvx) ?_
      have fin : ∀ (jump : Option Code) (W3 : World), KeepsFrom w.heap.size (V.putObj (s + 1) (.loop { rec .ready none with state := .busy })) W3 →
          (Instr.endRound (s + 1) jump).run P W3 = .ok (.bool jump.isNone) (W3.putObj (s + 1) (.loop (rec (if jump.isNone then .ready else .done) jump))) ∧
          W3.heap[s + 1]? = some (.loop { rec .ready none with state := .busy }) ∧
          (W3.putObj (s + 1) (.loop (rec (if jump.isNone then .ready else .done) jump))).heap[s + 1]? = some (.loop (rec (if jump.isNone then .ready else .done) jump)) ∧
          (W3.putObj (s + 1) (.loop (rec (if jump.isNone then .ready else .done) jump))).heap[s]? = some (.deferred (some [])) ∧
          KeepsFrom W1.heap.size W (W3.putObj (s + 1) (.loop (rec (if jump.isNone then .ready else .done) jump))) := fun jump W3 hk3 => by
        have hl3 := hk3.same _ _ (by omega) hl2 rfl
        have := run_endRound (P := P) jump hl3
        have hkk : KeepsFrom W1.heap.size W (W3.putObj (s + 1) (.loop (rec (if jump.isNone then .ready else .done) jump))) := (keepsFrom_up hkf (by omega)).trans ((keepsFrom_put (by omega)).trans ((keepsFrom_up hk3 (by omega)).trans (keepsFrom_put (by omega))))
        rw [hrec] at this hkk ⊢
        exact ⟨this, by rw [hrec] at hl3; exact hl3, World.putObj_heap_same (Array.getElem?_eq_some_iff.1 hl3).1, (World.putObj_heap_other (by omega)).trans (hk3.same _ _ (by omega) hk2 rfl), hkk⟩
      rintro e a3 W3 hp
      cases e with
      | normal =>
        obtain ⟨hk3, hkp3, hi3⟩ := hp
        obtain ⟨hr, hl3, hl4, hk4, hkk⟩ := fin none W3 hk3
        exact ⟨_, _, hr, .inl ⟨rfl, ⟨hI.own.putObj _ hi3 (by omega) hl3 rfl, hl4, hk4⟩, hkk, hkp.trans (hkp1.trans (hkp3.trans (Kc.stp hI hi3 (hput W3 _ _ hl3 rfl))))⟩⟩
      | ret =>
        obtain ⟨hk3, hkp3, hi3⟩ := hp
        obtain ⟨hr, hl3, hl4, hk4, hkk⟩ := fin (some .ret) W3 hk3
        exact ⟨_, _, hr, .inr ⟨rfl, ⟨.ret, (hIx _).own.putObj _ hi3 (by omega) hl3 rfl, hl4, hk4⟩, hkk, hkp.trans (hkp1.trans (hkp3.trans (Kc.stp (hIx _) hi3 (hput W3 _ _ hl3 rfl))))⟩⟩
      | exit id =>
        obtain ⟨hk3, hkp3, hi3⟩ := hp
        obtain ⟨hr, hl3, hl4, hk4, hkk⟩ := fin (some (.exit id)) W3 hk3
        exact ⟨_, _, hr, .inr ⟨rfl, ⟨.exit id, (hIx _).own.putObj _ hi3 (by omega) hl3 rfl, hl4, hk4⟩, hkk, hkp.trans (hkp1.trans (hkp3.trans (Kc.stp (hIx _) hi3 (hput W3 _ _ hl3 rfl))))⟩⟩
      | goto t => exact hp.elim
      | panic ch => exact hp.elim
      | outgrown => exact hp.elim
    · rintro e W2 ⟨⟨v, rfl⟩, (⟨xs, hS, hi, hl, hk⟩ | ⟨pre, hSp, c, hi, hl, hk⟩)⟩
      · exact ⟨none, _, by have := run_endLoop (P := P) hl (by rw [hrec]; simp); rw [hrec] at this; exact this, hdone _ xs _ (by omega) hS (hI.own.putObj _ hi (by omega) hl rfl) ((World.putObj_heap_other (by omega)).trans hk)⟩
      · exact ⟨some c, _, by have := run_endLoop (P := P) hl (by rw [hrec]; simp); rw [hrec] at this; exact this, hstop _ c pre _ (by omega) hSp ((hIx c).own.putObj _ hi (by omega) hl rfl) ((World.putObj_heap_other (by omega)).trans hk)⟩

end Go.Proofs.YtkfagfdefkaenaaDoor

/-
  Tables as lists of words: plain notions; no statement is proved here.
-/
namespace Go.Proofs.YtkfagfdefkaenaaDoor
open Pr (Gp sq pl)

def cw (T : List Nat) (g : Nat) : Nat := T.getD (3 + 17 * g) 0
def hsw (T : List Nat) (g i : Nat) : Nat := T.getD (3 + 17 * g + 1 + 2 * i) 0
def idw (T : List Nat) (g i : Nat) : Nat := T.getD (3 + 17 * g + 2 + 2 * i) 0
/-- The group has an empty slot. -/
def hasE (T : List Nat) (g : Nat) : Bool := decide (mt (cw T g) 128 ≠ 0)
/-- Shaped as a table of G groups. -/
structure Shp (T : List Nat) (G : Nat) : Prop where
  gp : Gp G
  g0 : T.getD 0 0 = G
  len : T.length = 3 + 17 * G
  lt : ∀ x ∈ T, x < 18446744073709551616
theorem getD_lt64 {T : List Nat} (h : ∀ x ∈ T, x < 18446744073709551616) (j : Nat) : T.getD j 0 < 18446744073709551616 := by
  rw [List.getD_eq_getElem?_getD]
  cases hj : T[j]? with
  | none => simp
  | some x => exact h x (List.mem_of_getElem? hj)
theorem Shp.cw_lt {T : List Nat} {G : Nat} (h : Shp T G) (g : Nat) : cw T g < 18446744073709551616 := getD_lt64 h.lt _
theorem Shp.hs_lt {T : List Nat} {G : Nat} (h : Shp T G) (g i : Nat) : hsw T g i < 18446744073709551616 := getD_lt64 h.lt _
theorem Shp.id_lt {T : List Nat} {G : Nat} (h : Shp T G) (g i : Nat) : idw T g i < 18446744073709551616 := getD_lt64 h.lt _

theorem mk_testBit (p : Nat → Bool) : ∀ k i, (mk p k).testBit i = (decide (i < k) && p i)
  | 0, i => by simp [mk]
  | k + 1, i => by
    rw [mk_or, Nat.testBit_or, mk_testBit p k i]
    by_cases hp : p k = true
    · rw [if_pos hp, Nat.testBit_shiftLeft]
      rcases Nat.lt_trichotomy i k with q | q | q
      · simp [q, show i < k + 1 by omega, show ¬ k ≤ i by omega]
      · subst q; simp [hp]
      · obtain ⟨j, rfl⟩ : ∃ j, i = k + (j + 1) := ⟨i - k - 1, by omega⟩
        simp [show k + (j + 1) - k = j + 1 by omega, Nat.testBit_succ]
        omega
    · rw [if_neg hp]
      rcases Nat.lt_trichotomy i k with q | q | q
      · simp [q, show i < k + 1 by omega]
      · subst q; simp [hp]
      · simp [show ¬ i < k by omega, show ¬ i < k + 1 by omega]
theorem bsF_mk (p : Nat → Bool) : bsF (mk p 8) = (List.range 8).filter p := by
  unfold bsF
  rw [show List.range 64 = List.range 8 ++ List.range' 8 56 from by decide, List.filter_append]
  have h2 : (List.range' 8 56).filter (fun i => (mk p 8).testBit i) = [] := by
    rw [List.filter_eq_nil_iff]
    intro i hi
    rw [mk_testBit]
    simp [List.mem_range'] at hi
    simp; omega
  rw [h2, List.append_nil]
  apply List.filter_congr
  intro i hi
  rw [mk_testBit]
  simp at hi
  simp [hi]
theorem bsF_mt (c h : Nat) : bsF (mt c h) = (List.range 8).filter fun i => decide (byt c i = h) := bsF_mk _
theorem bsF_mt_len (c h : Nat) : (bsF (mt c h)).length ≤ 8 := by rw [bsF_mt]; have := List.length_filter_le (fun i => decide (byt c i = h)) (List.range 8); simpa using this
/-- The slots of a group that have the hash, by the low bits first. -/
def msl (T : List Nat) (h g : Nat) (L : List Nat) : List (Nat × Nat) := (L.filter fun i => hsw T g i == h).map fun i => (g, i)
def mgr (T : List Nat) (h g : Nat) : List (Nat × Nat) := msl T h g (bsF (mt (cw T g) (h % 128)))
def mtl (T : List Nat) (h : Nat) (L : List Nat) : List (Nat × Nat) := L.flatMap (mgr T h)
/-- Up to the first group with an empty slot. -/
def wk (T : List Nat) : List Nat → List Nat
  | [] => []
  | g :: l => if hasE T g then [g] else g :: wk T l
def mts (T : List Nat) (h G : Nat) : List (Nat × Nat) := mtl T h (wk T (sq (h / 128) G))
theorem mtl_snoc (T : List Nat) (h : Nat) (L : List Nat) (g : Nat) : mtl T h (L ++ [g]) = mtl T h L ++ mgr T h g := by simp [mtl]
theorem msl_snoc_yes {T : List Nat} {h g i : Nat} (L : List Nat) (e : hsw T g i = h) : msl T h g (L ++ [i]) = msl T h g L ++ [(g, i)] := by simp [msl, List.filter_append, e]
theorem msl_snoc_no {T : List Nat} {h g i : Nat} (L : List Nat) (e : hsw T g i ≠ h) : msl T h g (L ++ [i]) = msl T h g L := by simp [msl, List.filter_append, e]
theorem wk_none {T : List Nat} {L : List Nat} (h : ∀ g ∈ L, hasE T g = false) : wk T L = L := by
  induction L with
  | nil => rfl
  | cons g L ih => rw [wk, h g (by simp), ih fun x hx => h x (by simp [hx])]; simp
theorem wk_at {T : List Nat} {A : List Nat} {g : Nat} (B : List Nat) (h : ∀ x ∈ A, hasE T x = false) (hg : hasE T g = true) : wk T (A ++ g :: B) = A ++ [g] := by
  induction A with
  | nil => simp [wk, hg]
  | cons x A ih => rw [List.cons_append, wk, h x (by simp), ih fun y hy => h y (by simp [hy])]; simp
theorem wk_pre (T : List Nat) (L : List Nat) : wk T L <+: L := by
  induction L with
  | nil => simp [wk]
  | cons g L ih =>
    rw [wk]
    split
    · exact ⟨L, by simp⟩
    · obtain ⟨r, hr⟩ := ih
      exact ⟨r, by simp [hr]⟩
theorem mtl_pre (T : List Nat) (h : Nat) {A B : List Nat} (p : A <+: B) : mtl T h A <+: mtl T h B := by
  obtain ⟨r, rfl⟩ := p
  exact ⟨mtl T h r, by simp [mtl]⟩
theorem msl_pre (T : List Nat) (h g : Nat) {A B : List Nat} (p : A <+: B) : msl T h g A <+: msl T h g B := by
  obtain ⟨r, rfl⟩ := p
  exact ⟨msl T h g r, by simp [msl]⟩
theorem msl_len (T : List Nat) (h g : Nat) (L : List Nat) : (msl T h g L).length ≤ L.length := by
  simp only [msl, List.length_map]
  exact List.length_filter_le _ _
theorem mgr_len (T : List Nat) (h g : Nat) : (mgr T h g).length ≤ 8 := Nat.le_trans (msl_len _ _ _ _) (bsF_mt_len _ _)
theorem mtl_len (T : List Nat) (h : Nat) (L : List Nat) : (mtl T h L).length ≤ 8 * L.length := by
  induction L with
  | nil => simp [mtl]
  | cons g L ih =>
    have := mgr_len T h g
    simp only [mtl, List.flatMap_cons, List.length_append, List.length_cons] at ih ⊢
    omega
theorem mts_of {T : List Nat} {h G : Nat} {A : List Nat} {x : Nat} (hA : ∀ g ∈ A, hasE T g = false) (hp : A ++ [x] <+: sq (h / 128) G) : mtl T h (A ++ [x]) <+: mts T h G := by
  obtain ⟨B, hB⟩ := hp
  refine mtl_pre T h ?_
  rw [← hB, List.append_assoc, List.singleton_append]
  by_cases hx : hasE T x = true
  · rw [wk_at B hA hx]; exact List.prefix_rfl
  · have : ∀ A : List Nat, (∀ g ∈ A, hasE T g = false) → wk T (A ++ x :: B) = A ++ x :: wk T B := by
      intro A
      induction A with
      | nil => intro _; simp [wk, hx]
      | cons y A ih => intro h; rw [List.cons_append, wk, h y (by simp), ih fun z hz => h z (by simp [hz])]; simp
    rw [this A hA]
    exact ⟨wk T B, by simp⟩
theorem mts_end {T : List Nat} {h G : Nat} {A : List Nat} {x : Nat} (hA : ∀ g ∈ A, hasE T g = false) (hx : hasE T x = true) (hp : A ++ [x] <+: sq (h / 128) G) : mtl T h (A ++ [x]) = mts T h G := by
  obtain ⟨B, hB⟩ := hp
  unfold mts
  rw [← hB, List.append_assoc, List.singleton_append, wk_at B hA hx]
theorem mts_done {T : List Nat} {h G : Nat} {A : List Nat} (hA : ∀ g ∈ A, hasE T g = false) (hp : A = sq (h / 128) G) : mtl T h A = mts T h G := by
  subst hp
  unfold mts
  rw [wk_none hA]

/-! ### all entries -/
def esl (T : List Nat) (g : Nat) (L : List Nat) : List (Nat × Nat) := L.map fun i => (hsw T g i, idw T g i)
def egr (T : List Nat) (g : Nat) : List (Nat × Nat) := esl T g (bsF (fl (cw T g)))
def ents (T : List Nat) (k : Nat) : List (Nat × Nat) := (List.range k).flatMap (egr T)
theorem ents_succ (T : List Nat) (k : Nat) : ents T (k + 1) = ents T k ++ egr T k := by simp [ents, List.range_succ]
theorem esl_snoc (T : List Nat) (g i : Nat) (L : List Nat) : esl T g (L ++ [i]) = esl T g L ++ [(hsw T g i, idw T g i)] := by simp [esl]
theorem esl_pre (T : List Nat) (g : Nat) {A B : List Nat} (p : A <+: B) : esl T g A <+: esl T g B := by
  obtain ⟨r, rfl⟩ := p
  exact ⟨esl T g r, by simp [esl]⟩
theorem bsF_fl (c : Nat) : bsF (fl c) = (List.range 8).filter fun i => decide (byt c i < 128) := bsF_mk _
theorem bsF_fl_len (c : Nat) : (bsF (fl c)).length ≤ 8 := by rw [bsF_fl]; have := List.length_filter_le (fun i => decide (byt c i < 128)) (List.range 8); simpa using this
theorem egr_len (T : List Nat) (g : Nat) : (egr T g).length ≤ 8 := by simp only [egr, esl, List.length_map]; exact bsF_fl_len _
theorem ents_len (T : List Nat) : ∀ k, (ents T k).length ≤ 8 * k
  | 0 => by simp [ents]
  | k + 1 => by
    have := ents_len T k
    have := egr_len T k
    rw [ents_succ, List.length_append]
    omega
theorem ents_pre (T : List Nat) {j k : Nat} (h : j ≤ k) : ents T j <+: ents T k := by
  obtain ⟨d, rfl⟩ := Nat.exists_eq_add_of_le h
  clear h
  induction d with
  | zero => exact List.prefix_rfl
  | succ d ih =>
    refine ih.trans ?_
    rw [← Nat.add_assoc, ents_succ]
    exact List.prefix_append _ _
theorem fl_lt256 (c : Nat) : fl c < 256 := mk_lt _ 8
end Go.Proofs.YtkfagfdefkaenaaDoor
