/-
  The statements' own reference: its Alloc, Free and Largest answer as the program's do; no statement is proved here.
-/
import Derived.Test.YtkdgekdacinlhaaRefA
namespace Go.Proofs.Ytkdgekdacinlhaa
open Go.RowKit

/-- How the reference's pages have turned. -/
def RfPost (w : World) (q : Nat) (v : Value) (O' : List Int) (r : Value) (e : Ending) (w' : World) : Prop :=
  e = .returned r ∧ Rf w' q v O' ∧ Ext v.ownBlock.toList w w'

/-- Largest. -/
theorem rlargest_any {P : Nat} (q : Nat) (v : Value) (L : List Rn) (O : List Int) (w : World) (hR : Rf w q v O) (hI : Inv P L) (hO : Of P L O) :
    Calls Try.prog 24 #[.pointer (some ⟨q, 0, none⟩)] w fun e w' => e = .returned (.int .i64 (big L)) ∧ w' = w := by
  obtain ⟨a, c, rfl, _⟩ := hR.slice
  have hc := hR.cell
  have hlen : O.length ≤ 1024 := by rw [hO.len]; exact hI.le
  have hbl : big L ≤ 1024 := big_le (fun r hr _ => by have := hI.mem r hr; have := hI.le; omega)
  have KF : Hid (∀ p : Nat, p < O.length → Calls Try.prog 31 #[.pointer (some ⟨q, 0, none⟩), .int .i64 p] w fun e w' => (∃ k : Nat, e = .returned (.int .i64 k) ∧ ZR O p k) ∧ w' = w) := fun p hp => rfree_any q p _ O w hR hp hlen
  have HS : Hid (∀ (p k m : Nat), p < O.length → ZR O p k → m ≤ big L → (∀ r ∈ L, r.u = false → r.s < p → r.n ≤ m) → (max m k ≤ big L ∧ ∀ r ∈ L, r.u = false → r.s < p + 1 → r.n ≤ max m k)) := by
    intro p k m hp hz hm hr
    obtain ⟨r, hr0, h1, h2⟩ := hI.at_ (j := p) (by rw [← hO.len]; exact hp)
    refine ⟨?_, fun x hx hu hs => ?_⟩
    · rcases zr_le hI hO hr0 h1 h2 hz with h | ⟨h, h'⟩
      · omega
      · have := big_ge hr0 h; omega
    · by_cases e : x.s = p
      · have := hI.mem x hx
        have := zr_free hI hO hx hu (p := p) (by omega) (by omega) hz
        omega
      · have := hr x hx hu (by omega)
        omega
  have HE : Hid (∀ m : Nat, m ≤ big L → (∀ r ∈ L, r.u = false → r.s < O.length → r.n ≤ m) → m = big L) := fun m h1 h2 =>
    Nat.le_antisymm h1 (big_le (fun r hr hu => h2 r hr hu (by have := hI.mem r hr; rw [hO.len]; omega)))
  clear hR hI hO
  generalize O.length = n at *
  generalize big L = b at *
  go_enter Try.func24, Try.ntmps24
  go_wp2_with fail
  go_loopw [3, 4] (fun x y wr => ∃ m p : Nat, x = .int .i64 m ∧ y = .int .i64 p ∧ p ≤ n ∧ m ≤ b ∧ (∀ r ∈ L, r.u = false → r.s < p → r.n ≤ m) ∧ wr = w) (fun _ y _ => (n - (intOf y)).toNat)
  case atStart => exact ⟨0, 0, rfl, rfl, by omega, by omega, fun r _ _ h => by omega, rfl⟩
  case round =>
    obtain ⟨m, p, rfl, rfl, hp, hm, hr, rfl⟩ := hrel
    by_cases hlt : p < n
    · have K := KF.out p hlt
      have HX : Hid (∀ k, ZR O p k → (max m k ≤ b ∧ ∀ r ∈ L, r.u = false → r.s < p + 1 → r.n ≤ max m k)) := fun k hz => HS.out p k m hlt hz hm hr
      clear hr
      go_upto_region 5 with fail
      go_wp2_with (go_at_call 31; refine K.mono ?_; rintro e w' ⟨⟨k, rfl, hz⟩, rfl⟩; have HK := hid (HX.out k hz); clear hz HX)
      refine ⟨⟨max m k, p + 1, ?_, by go_num, by omega, HK.out.1, HK.out.2, trivial⟩, by simp [intOf]; omega⟩
      rw [show (if m < k then (k : Int) else (m : Int)) = ((max m k : Nat) : Int) by split <;> omega]
    · have hpn : p = n := by omega
      subst hpn
      have HM := hid (HE.out m hm hr)
      clear hr
      go_wp2_with fail
      go_ret
      exact ⟨by rw [← HM.out]; rfl, rfl⟩

/-! ### Alloc -/

theorem ralloc_arg (q : Nat) (n : Int) (w : World) (h : n < 1) : Calls Try.prog 25 #[.pointer (some ⟨q, 0, none⟩), .int .i64 n] w fun e w' => e = .returned (.tuple #[.int .i64 0, .int .i64 2]) ∧ w' = w := by
  go_enter Try.func25, Try.ntmps25
  go_wp2
  go_ret2
  exact ⟨rfl, rfl⟩

set_option maxRecDepth 100000 in
set_option maxHeartbeats 4000000 in
theorem ralloc_full {P : Nat} (q : Nat) (n : Int) (v : Value) (L : List Rn) (O : List Int) (w : World) (hR : Rf w q v O) (hI : Inv P L) (hO : Of P L O) (h1 : 1 ≤ n) (hno : ∀ r ∈ L, r.u = true ∨ (r.n : Int) < n) :
    Calls Try.prog 25 #[.pointer (some ⟨q, 0, none⟩), .int .i64 n] w fun e w' => e = .returned (.tuple #[.int .i64 0, .int .i64 7]) ∧ w' = w := by
  obtain ⟨a, c, rfl, _⟩ := hR.slice
  have hc := hR.cell
  have hlen : O.length ≤ 1024 := by rw [hO.len]; exact hI.le
  have KF : Hid (∀ p : Nat, p < O.length → Calls Try.prog 31 #[.pointer (some ⟨q, 0, none⟩), .int .i64 p] w fun e w' => (∃ k : Nat, e = .returned (.int .i64 k) ∧ ZR O p k) ∧ w' = w) := fun p hp => rfree_any q p _ O w hR hp hlen
  have HS : Hid (∀ (p k : Nat), p < O.length → ZR O p k → (k : Int) < n) := by
    intro p k hp hz
    obtain ⟨r, hr0, h2, h3⟩ := hI.at_ (j := p) (by rw [← hO.len]; exact hp)
    rcases zr_le hI hO hr0 h2 h3 hz with h | ⟨h, h'⟩
    · omega
    · rcases hno r hr0 with h4 | h4
      · rw [h] at h4; cases h4
      · omega
  clear hR hI hO hno
  generalize O.length = m at *
  have h1' : ¬ n < 1 := by omega
  go_enter Try.func25, Try.ntmps25
  go_wp2_with fail
  go_loopw [6] (fun y wr => ∃ p : Nat, y = .int .i64 p ∧ p ≤ m ∧ wr = w) (fun y _ => (m - (intOf y)).toNat)
  case atStart => exact ⟨0, rfl, by omega, rfl⟩
  case round =>
    obtain ⟨p, rfl, hp, rfl⟩ := hrel
    by_cases hlt : p < m
    · have K := KF.out p hlt
      have HX : Hid (∀ k, ZR O p k → (k : Int) < n) := fun k hz => HS.out p k hlt hz
      go_upto_region 6 with fail
      go_wp2_with (go_at_call 31; refine K.mono ?_; rintro e w' ⟨⟨k, rfl, hz⟩, rfl⟩; have hnk := HX.out k hz; clear hz HX)
      refine ⟨⟨p + 1, by go_num, by omega, trivial⟩, by simp [intOf]; omega⟩
    · go_wp2_with fail
      go_ret2
      exact ⟨rfl, rfl⟩

set_option maxRecDepth 100000 in
set_option maxHeartbeats 4000000 in
theorem ralloc_hit {P : Nat} (q m : Nat) (v : Value) (A B : List Rn) (x : Rn) (O : List Int) (w : World) (hR : Rf w q v O) (hI : Inv P (A ++ (x :: B))) (hO : Of P (A ++ (x :: B)) O) (h1 : 1 ≤ m) (hu : x.u = false) (hn : m ≤ x.n) (hA : ∀ r ∈ A, r.u = true ∨ r.n < m) :
    Calls Try.prog 25 #[.pointer (some ⟨q, 0, none⟩), .int .i64 m] w (RfPost w q v (fill O x.s ((x.s : Int) + 1) m) (.tuple #[.int .i64 x.s, .int .i64 0])) := by
  have hmx := hI.mem x (by simp)
  have hle := hI.le
  have hol := hO.len
  obtain ⟨g, c, rfl, hgl, _, _, _⟩ := hR.at_ (by omega)
  have hc := hR.cell
  have KF : Hid (∀ p : Nat, p < O.length → Calls Try.prog 31 #[.pointer (some ⟨q, 0, none⟩), .int .i64 p] w fun e w' => (∃ k : Nat, e = .returned (.int .i64 k) ∧ ZR O p k) ∧ w' = w) := fun p hp => rfree_any q p _ O w hR hp (by omega)
  have HS : Hid (∀ (p k : Nat), p < x.s → ZR O p k → k < m) := by
    intro p k hp hz
    obtain ⟨r, hr0, h2, h3⟩ := hI.at_ (j := p) (by omega)
    rcases zr_le hI hO hr0 h2 h3 hz with h | ⟨h, h'⟩
    · omega
    · have hr1 : r ∈ A := by
        rcases List.mem_append.1 hr0 with h4 | h4
        · exact h4
        · rcases List.mem_cons.1 h4 with rfl | h4
          · omega
          · have := (take_sep hI).2 r h4; omega
      rcases hA r hr1 with h4 | h4
      · rw [h] at h4; cases h4
      · omega
  have HT : Hid (∀ k, ZR O x.s k → m ≤ k) := fun k hz => by
    have := zr_free hI hO (r := x) (by simp) hu (Nat.le_refl _) (by omega) hz
    omega
  have HR := hid hR
  have hxl : x.s + m ≤ O.length := by omega
  have hn4 : O.length ≤ 1024 := by omega
  clear hR hI hO hA hu hol hmx hle hn
  have HF : Hid (∀ k, (fill O x.s ((x.s : Int) + 1) k).length = O.length) := fun k => fill_len _ _ _ k
  generalize hO1 : O.length = n at *
  clear hO1
  generalize x.s = s at *
  have h1' : ¬ ((m : Int) < 1) := by omega
  go_enter Try.func25, Try.ntmps25
  go_wp2_with fail
  go_loopw [6] (fun y wr => ∃ p : Nat, y = .int .i64 p ∧ p ≤ s ∧ wr = w) (fun y _ => (n - (intOf y)).toNat)
  case atStart => exact ⟨0, rfl, by omega, rfl⟩
  case round =>
    obtain ⟨p, rfl, hp, rfl⟩ := hrel
    have hpn : p < n := by omega
    have K := KF.out p hpn
    by_cases hlt : p < s
    · have HX : Hid (∀ k, ZR O p k → k < m) := fun k hz => HS.out p k hlt hz
      go_upto_region 6 with fail
      go_wp2_with (go_at_call 31; refine K.mono ?_; rintro e w' ⟨⟨k, rfl, hz⟩, rfl⟩; have hnk := HX.out k hz; clear hz HX)
      refine ⟨⟨p + 1, by go_num, by omega, trivial⟩, by simp [intOf]; omega⟩
    · obtain rfl : p = s := by omega
      go_upto_region 6 with fail
      go_wp2_with (go_at_call 31; refine K.mono ?_; rintro e w' ⟨⟨k, rfl, hz⟩, rfl⟩; have hnk := HT.out k hz; clear hz HT K KF HS)
      clear hc
      go_loopw [7] (fun y wr => ∃ k : Nat, y = .int .i64 k ∧ k ≤ m ∧ Rf wr q (.slice (some ⟨g, 0, none⟩) n c) (fill O p ((p : Int) + 1) k) ∧ Ext [g] w' wr) (fun y _ => (m - (intOf y)).toNat)
      case atStart => exact ⟨0, rfl, by omega, HR.out, Ext.refl _ _⟩
      case round =>
        obtain ⟨j, rfl, hj, hR, hE⟩ := hrel
        by_cases hjm : j < m
        · have hcr := hR.cell
          have fj := hR.frz (p + j)
          have cj := hR.cat (i := p + j) (by omega)
          have HR2 := hid (hR.set (p + j) ((p : Int) + 1))
          have HE2 := hid (hE.trans (Ext.setCell [g] _ ⟨g, p + j, none⟩ (.int .i64 ((p : Int) + 1)) (by simp)))
          clear hR hE
          go_wp2_with fail
          go_roundw
          case rel => exact ⟨j + 1, by go_num, by omega, HR2.out, HE2.out⟩
          case measure => simp [intOf]; omega
        · obtain rfl : j = m := by omega
          have HR2 := hid hR
          have HE2 := hid hE
          clear hR hE
          go_wp2_with fail
          go_ret2
          exact ⟨rfl, HR2.out, HE2.out⟩

/-! ### Free -/

set_option maxRecDepth 100000 in
set_option maxHeartbeats 4000000 in
theorem rfr_none (q : Nat) (s : Int) (v : Value) (O : List Int) (w : World) (hR : Rf w q v O) (hlen : O.length ≤ 1024) (h : s < 0 ∨ (O.length : Int) ≤ s ∨ (0 ≤ s ∧ s < O.length ∧ ofAt O s.toNat ≠ s + 1)) :
    Calls Try.prog 22 #[.pointer (some ⟨q, 0, none⟩), .int .i64 s] w fun e w' => e = .returned (.tuple #[.int .i64 0, .int .i64 4]) ∧ w' = w := by
  obtain ⟨a, c, rfl, _⟩ := hR.slice
  have hc := hR.cell
  rcases h with h | h | ⟨h0, h1, h2⟩
  · clear hR
    go_enter Try.func22, Try.ntmps22
    go_wp2_with fail
    go_ret2
    exact ⟨rfl, rfl⟩
  · have h0 : ¬ s < 0 := by omega
    clear hR
    go_enter Try.func22, Try.ntmps22
    go_wp2_with fail
    go_ret2
    exact ⟨rfl, rfl⟩
  · obtain ⟨k, rfl⟩ : ∃ k : Nat, s = (k : Int) := ⟨s.toNat, by omega⟩
    rw [Int.toNat_natCast] at h2
    have hk : k < O.length := by omega
    obtain ⟨g, c', hv, _, _, _, hcs⟩ := hR.at_ (by omega)
    simp only [Value.slice.injEq, true_and] at hv
    obtain ⟨rfl, rfl⟩ := hv
    have ck := hcs k hk
    clear hcs hR h0 h1
    generalize ofAt O k = y at *
    generalize O.length = n at *
    have h3 : (y != (k : Int) + 1) = true := by simp [h2]
    clear h2
    go_enter Try.func22, Try.ntmps22
    go_wp2_with fail
    go_ret2
    exact ⟨rfl, rfl⟩

set_option maxRecDepth 100000 in
set_option maxHeartbeats 4000000 in
theorem rfr_hit (q s N : Nat) (v : Value) (O : List Int) (w : World) (hR : Rf w q v O) (hlen : O.length ≤ 1024) (hN : 1 ≤ N) (hl : s + N ≤ O.length) (hin : ∀ k, k < N → ofAt O (s + k) = (s : Int) + 1) (hout : s + N < O.length → ofAt O (s + N) ≠ (s : Int) + 1) :
    Calls Try.prog 22 #[.pointer (some ⟨q, 0, none⟩), .int .i64 s] w (RfPost w q v (fill O s 0 N) (.tuple #[.int .i64 N, .int .i64 0])) := by
  obtain ⟨g, c, rfl, hgl, _, _, hcs⟩ := hR.at_ (by omega)
  have hc := hR.cell
  have cs := hcs s (by omega)
  rw [show ofAt O s = (s : Int) + 1 from hin 0 (by omega)] at cs
  have HF : Hid (∀ k, k ≤ N → ∀ j, ofAt (fill O s 0 k) j = if s ≤ j ∧ j < s + k then 0 else ofAt O j) := fun k hk j => fill_at 0 k (by omega) j
  have HR := hid hR
  have HI := hid hin
  have HO := hid hout
  clear hcs hR hin hout
  generalize O.length = n at *
  have hd0 : decide ((s : Int) < 0) = false := by simp
  have hd1 : decide (n ≤ s) = false := by simp; omega
  go_enter Try.func22, Try.ntmps22
  go_wp2_with fail
  clear hc cs
  go_loopw [6] (fun y wr => ∃ k : Nat, y = .int .i64 k ∧ k ≤ N ∧ Rf wr q (.slice (some ⟨g, 0, none⟩) n c) (fill O s 0 k) ∧ Ext [g] w wr) (fun y _ => (n - (intOf y)).toNat)
  case atStart => exact ⟨0, rfl, by omega, HR.out, Ext.refl _ _⟩
  case round =>
    obtain ⟨j, rfl, hj, hR, hE⟩ := hrel
    have hcr := hR.cell
    by_cases hjm : j < N
    · have fj := hR.frz (s + j)
      have cj := hR.cat (i := s + j) (by omega)
      rw [HF.out j (by omega), if_neg (by omega), HI.out j hjm] at cj
      have HR2 := hid (hR.set (s + j) 0)
      have HE2 := hid (hE.trans (Ext.setCell [g] _ ⟨g, s + j, none⟩ (.int .i64 0) (by simp)))
      clear hR hE
      go_wp2_with fail
      go_roundw
      case rel => exact ⟨j + 1, by go_num, by omega, HR2.out, HE2.out⟩
      case measure => simp [intOf]; omega
    · obtain rfl : j = N := by omega
      have HR2 := hid hR
      have HE2 := hid hE
      by_cases hq : s + j < n
      · have cj := hR.cat (i := s + j) hq
        rw [HF.out j (by omega), if_neg (by omega)] at cj
        have hne := HO.out hq
        clear hR hE
        generalize ofAt O (s + j) = y at *
        have hne2 : (y == (s : Int) + 1) = false := by simp [hne]
        clear hne
        go_wp2_with fail
        go_ret2
        exact ⟨rfl, HR2.out, HE2.out⟩
      · clear hR hE
        go_wp2_with fail
        go_ret2
        exact ⟨rfl, HR2.out, HE2.out⟩

end Go.Proofs.Ytkdgekdacinlhaa
