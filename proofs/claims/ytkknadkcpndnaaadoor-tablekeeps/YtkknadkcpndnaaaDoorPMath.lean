/-
  Triangular numbers modulo a power of two; no statement is proved here.
-/
import Derived.ProofKit
namespace Go.Proofs.YtkknadkcpndnaaaDoor.Pr

/-- The sum of the numbers up to i. -/
def tri : Nat → Nat
  | 0 => 0
  | i + 1 => tri i + (i + 1)
theorem tri_two (i : Nat) : 2 * tri i = i * (i + 1) := by
  induction i with
  | zero => rfl
  | succ n ih => rw [tri, Nat.mul_add, ih, ← Nat.add_mul, Nat.mul_comm]
theorem tri_div (i : Nat) : i * (i + 1) / 2 = tri i := by rw [← tri_two]; omega
theorem tri_lt {i n : Nat} (h : i < n) (hn : n ≤ 4096) : tri i < 16777216 := by
  have h1 := tri_two i
  have h2 : i * (i + 1) ≤ 4095 * 4096 := Nat.mul_le_mul (by omega) (by omega)
  omega

/-- Place number i. -/
def pl (h G i : Nat) : Nat := (h + tri i) % G
/-- The order of all places. -/
def sq (h G : Nat) : List Nat := (List.range G).map (pl h G)
theorem sq_len (h G : Nat) : (sq h G).length = G := by simp [sq]
theorem sq_at (h G : Nat) {i : Nat} (hi : i < G) : (sq h G)[i]? = some (pl h G i) := by simp [sq, hi]
theorem sq_take (h G k : Nat) (hk : k < G) : (sq h G).take (k + 1) = (sq h G).take k ++ [pl h G k] := by
  rw [List.take_add_one, sq_at h G hk]; rfl
theorem pl_lt (h : Nat) {G : Nat} (hG : 0 < G) (i : Nat) : pl h G i < G := Nat.mod_lt _ hG
theorem pl_zero (h G : Nat) : pl h G 0 = h % G := rfl
theorem pl_step (h G i : Nat) : pl h G (i + 1) = (pl h G i + (i + 1)) % G := by
  unfold pl
  rw [tri, Nat.mod_add_mod, Nat.add_assoc]
theorem pl_mod (h G i : Nat) : pl (h % G) G i = pl h G i := by
  unfold pl
  rw [Nat.mod_add_mod]
theorem sq_mod (h G : Nat) : sq (h % G) G = sq h G := by
  unfold sq
  congr 1
  funext i
  exact pl_mod h G i

/-- Numbers of groups. -/
def Gp (G : Nat) : Prop := ∃ k, k ≤ 12 ∧ G = 2 ^ k
theorem Gp.pos {G : Nat} (h : Gp G) : 0 < G := by obtain ⟨k, _, rfl⟩ := h; exact Nat.two_pow_pos k
theorem Gp.le {G : Nat} (h : Gp G) : G ≤ 4096 := by
  obtain ⟨k, hk, rfl⟩ := h
  exact Nat.pow_le_pow_right (n := 2) (j := 12) (by omega) hk

theorem odd_cop (k a b : Nat) (hb : b % 2 = 1) (h : 2 ^ k ∣ a * b) : 2 ^ k ∣ a := by
  have hc : Nat.Coprime (2 ^ k) b := by
    refine Nat.Coprime.pow_left k ?_
    unfold Nat.Coprime
    rw [Nat.gcd_rec, hb]
    rfl
  exact hc.dvd_of_dvd_mul_right h

theorem pl_inj {h G i j : Nat} (hG : Gp G) (hi : i < G) (hj : j < G) (e : pl h G i = pl h G j) : i = j := by
  have key : ∀ i j, i < j → j < G → (h + tri i) % G = (h + tri j) % G → False := by
    intro i j hij hj e
    obtain ⟨k, _, rfl⟩ := hG
    have h1 := tri_two i
    have h2 := tri_two j
    have hle : tri i ≤ tri j := by
      have : i * (i + 1) ≤ j * (j + 1) := Nat.mul_le_mul (by omega) (by omega)
      omega
    have hd : 2 ^ k ∣ tri j - tri i := by
      have := Nat.dvd_of_mod_eq_zero (Nat.sub_mod_eq_zero_of_mod_eq e.symm)
      rwa [Nat.add_sub_add_left] at this
    have hd2 : 2 ^ (k + 1) ∣ 2 * (tri j - tri i) := by
      rw [Nat.pow_succ, Nat.mul_comm]
      exact Nat.mul_dvd_mul_left 2 hd
    obtain ⟨d, rfl⟩ : ∃ d, j = i + d := ⟨j - i, by omega⟩
    have hp : 2 * (tri (i + d) - tri i) = d * (2 * i + d + 1) := by
      rw [Nat.mul_sub, h1, h2]
      have : (i + d) * (i + d + 1) = i * (i + 1) + d * (2 * i + d + 1) := by
        simp only [Nat.mul_add, Nat.add_mul, Nat.mul_one]
        have e1 : d * i = i * d := Nat.mul_comm _ _
        have e2 : d * (2 * i) = 2 * (i * d) := by rw [Nat.mul_left_comm, e1]
        omega
      omega
    rw [hp] at hd2
    have hk : 2 ^ (k + 1) = 2 * 2 ^ k := by rw [Nat.pow_succ, Nat.mul_comm]
    by_cases hodd : d % 2 = 1
    · have := odd_cop (k + 1) (2 * i + d + 1) d hodd (by rwa [Nat.mul_comm])
      have := Nat.le_of_dvd (by omega) this
      omega
    · have := odd_cop (k + 1) d (2 * i + d + 1) (by omega) hd2
      have := Nat.le_of_dvd (by omega) this
      omega
  unfold pl at e
  rcases Nat.lt_trichotomy i j with q | q | q
  · exact (key i j q hj e).elim
  · exact q
  · exact (key j i q hi e.symm).elim

theorem onto (n : Nat) : ∀ f : Nat → Nat, (∀ i, i < n → f i < n) → (∀ i j, i < n → j < n → f i = f j → i = j) → ∀ g, g < n → ∃ i, i < n ∧ f i = g := by
  induction n with
  | zero => intro f _ _ g hg; omega
  | succ n ih =>
    intro f hlt hinj g hg
    by_cases h0 : g = f n
    · exact ⟨n, by omega, h0.symm⟩
    have hfn := hlt n (by omega)
    have hne : ∀ i, i < n → f i ≠ f n := fun i hi e => by have := hinj i n (by omega) (by omega) e; omega
    obtain ⟨i, hi, e⟩ := ih (fun i => if f i = n then f n else f i) (fun i hi => by
        have h1 := hlt i (by omega)
        have h2 := hne i hi
        show (if f i = n then f n else f i) < n
        split <;> omega) (fun i j hi hj e => by
        have h2 := hne i hi
        have h3 := hne j hj
        refine hinj i j (by omega) (by omega) ?_
        revert e
        show (if f i = n then f n else f i) = (if f j = n then f n else f j) → f i = f j
        split <;> split <;> omega) (if g = n then f n else g) (by split <;> omega)
    refine ⟨i, by omega, ?_⟩
    have h2 := hne i hi
    revert e
    show (if f i = n then f n else f i) = (if g = n then f n else g) → f i = g
    split <;> split <;> omega

theorem pl_onto {h G g : Nat} (hG : Gp G) (hg : g < G) : ∃ i, i < G ∧ pl h G i = g :=
  onto G (pl h G) (fun i _ => pl_lt h hG.pos i) (fun _ _ hi hj e => pl_inj hG hi hj e) g hg

/-! ### numbers of groups, as both sides tell them -/
theorem gp_list {G : Nat} : Gp G ↔ G ∈ [1, 2, 4, 8, 16, 32, 64, 128, 256, 512, 1024, 2048, 4096] := by
  constructor
  · rintro ⟨k, hk, rfl⟩
    have : k = 0 ∨ k = 1 ∨ k = 2 ∨ k = 3 ∨ k = 4 ∨ k = 5 ∨ k = 6 ∨ k = 7 ∨ k = 8 ∨ k = 9 ∨ k = 10 ∨ k = 11 ∨ k = 12 := by omega
    rcases this with rfl | rfl | rfl | rfl | rfl | rfl | rfl | rfl | rfl | rfl | rfl | rfl | rfl <;> decide
  · intro h
    simp only [List.mem_cons, List.not_mem_nil, or_false] at h
    rcases h with rfl | rfl | rfl | rfl | rfl | rfl | rfl | rfl | rfl | rfl | rfl | rfl | rfl
    · exact ⟨0, by omega, rfl⟩
    · exact ⟨1, by omega, rfl⟩
    · exact ⟨2, by omega, rfl⟩
    · exact ⟨3, by omega, rfl⟩
    · exact ⟨4, by omega, rfl⟩
    · exact ⟨5, by omega, rfl⟩
    · exact ⟨6, by omega, rfl⟩
    · exact ⟨7, by omega, rfl⟩
    · exact ⟨8, by omega, rfl⟩
    · exact ⟨9, by omega, rfl⟩
    · exact ⟨10, by omega, rfl⟩
    · exact ⟨11, by omega, rfl⟩
    · exact ⟨12, by omega, rfl⟩

theorem and_list : (List.range 4097).all (fun n => (decide (1 ≤ n) && decide (n &&& (n - 1) = 0)) == decide (n ∈ [1, 2, 4, 8, 16, 32, 64, 128, 256, 512, 1024, 2048, 4096])) = true := by decide +kernel
theorem and_gp {n : Nat} (h1 : 1 ≤ n) (h2 : n ≤ 4096) : n &&& (n - 1) = 0 ↔ Gp n := by
  have := List.all_eq_true.1 and_list n (by simp; omega)
  rw [gp_list]
  simp only [h1, decide_true, Bool.true_and, beq_iff_eq] at this
  exact decide_eq_decide.1 this
end Go.Proofs.YtkknadkcpndnaaaDoor.Pr
