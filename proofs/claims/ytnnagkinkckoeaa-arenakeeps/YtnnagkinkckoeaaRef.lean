/-
  What the document's answers (package heddleref01) do to a plain list of bytes: one contract a function and a way through it; no statement is proved here.
-/
import Derived.Test.YtnnagkinkckoeaaOwn
namespace Go.Proofs.Ytnnagkinkckoeaa
open Go.ChangeShapes Go.WideShapes Go.ChangeAt Go.RowKit

theorem bad_any (a : Option Addr) (l c : Nat) (i n : Int) (w : World) (hl : l ≤ 1048576) (hi : I64 i) (E : Int) (hE : perr l i n = E) :
    Calls Try.prog 36 #[.slice a l c, .int .i64 i, .int .i64 n] w fun e w' => e = .returned (.int .i64 E) ∧ w' = w := by
  subst hE
  unfold perr
  by_cases h1 : n < 0
  · rw [if_pos h1]
    go_enter Try.func36, Try.ntmps36
    go_wp2
    go_ret
    exact ⟨rfl, rfl⟩
  · rw [if_neg h1]
    by_cases h2 : i < 0
    · rw [if_pos (.inl h2)]
      go_enter Try.func36, Try.ntmps36
      go_wp2
      go_ret
      exact ⟨rfl, rfl⟩
    · by_cases h3 : (l : Int) < i
      · rw [if_pos (by omega)]
        go_enter Try.func36, Try.ntmps36
        go_wp2
        go_ret
        exact ⟨rfl, rfl⟩
      · by_cases h4 : (l : Int) - i < n
        · rw [if_pos (by omega)]
          go_enter Try.func36, Try.ntmps36
          go_wp2
          go_ret
          exact ⟨rfl, rfl⟩
        · rw [if_neg (by omega)]
          go_enter Try.func36, Try.ntmps36
          go_wp2
          go_ret
          exact ⟨rfl, rfl⟩

theorem width_yes (n : Int) (w : World) (h : n = 1 ∨ n = 2 ∨ n = 4 ∨ n = 8) : Calls Try.prog 35 #[.int .i64 n] w fun e w' => e = .returned (.bool true) ∧ w' = w := by
  rcases h with rfl | rfl | rfl | rfl
  all_goals
    go_enter Try.func35, Try.ntmps35
    go_wp2
    go_ret
    exact ⟨rfl, rfl⟩

theorem width_no (n : Int) (w : World) (h : ¬ (n = 1 ∨ n = 2 ∨ n = 4 ∨ n = 8)) : Calls Try.prog 35 #[.int .i64 n] w fun e w' => e = .returned (.bool false) ∧ w' = w := by
  have h1 : (n == 1) = false := by simp; omega
  have h2 : (n == 2) = false := by simp; omega
  have h3 : (n == 4) = false := by simp; omega
  have h4 : (n == 8) = false := by simp; omega
  clear h
  go_enter Try.func35, Try.ntmps35
  go_wp2
  go_ret
  exact ⟨rfl, rfl⟩

/-! ### Load -/

theorem rload_err (a : Option Addr) (l c : Nat) (i n : Int) (w : World) (hl : l ≤ 1048576) (hi : I64 i) (E : Int) (hE : nerr l i n = E) (h0 : E ≠ 0) :
    Calls Try.prog 23 #[.slice a l c, .int .i64 i, .int .i64 n] w fun e w' => e = .returned (.tuple #[.int .u64 0, .int .i64 E]) ∧ w' = w := by
  unfold nerr at hE
  split at hE
  · rename_i h
    have K1 := width_yes n w h
    have K2 := bad_any a l c i n w hl hi E hE
    clear hE h
    go_enter Try.func23, Try.ntmps23
    go_wp2_with (first | (go_at_call 35; refine met K1 ?_) | (go_at_call 36; refine met K2 ?_))
    go_ret2
    exact ⟨rfl, rfl⟩
  · rename_i h
    have K1 := width_no n w h
    subst hE
    clear h
    go_enter Try.func23, Try.ntmps23
    go_wp2_with (go_at_call 35; refine met K1 ?_)
    go_ret2
    exact ⟨rfl, rfl⟩

theorem add_wrap (s b : Int) (k : Nat) (hk : k < 8) (h0 : 0 ≤ s) (h1 : s < 2 ^ (8 * k)) (h2 : 0 ≤ b) (h3 : b < 256) :
    IntKind.u64.wrap (s + IntKind.u64.wrap (b * 2 ^ (8 * k))) = s + b * 2 ^ (8 * k) := by
  have hp : (0 : Int) < 2 ^ (8 * k) := Int.pow_pos (by omega)
  have hle : (2 : Int) ^ (8 * k) ≤ 72057594037927936 := by
    have : k = 0 ∨ k = 1 ∨ k = 2 ∨ k = 3 ∨ k = 4 ∨ k = 5 ∨ k = 6 ∨ k = 7 := by omega
    rcases this with h | h | h | h | h | h | h | h <;> subst h <;> decide
  have m0 : 0 ≤ b * 2 ^ (8 * k) := Int.mul_nonneg h2 (by omega)
  have m1 : b * 2 ^ (8 * k) ≤ 255 * 2 ^ (8 * k) := Int.mul_le_mul_of_nonneg_right (by omega) (by omega)
  have hw : IntKind.u64.wrap (b * 2 ^ (8 * k)) = b * 2 ^ (8 * k) := by rw [IntKind.wrap_u64]; omega
  rw [hw, IntKind.wrap_u64]; omega

theorem rload_ok (r c : Nat) (L : List Int) (l : Nat) (i n : Nat) (w : World) (hR : Row w r L) (hB : Bts L) (hL : L.length = l) (hl : l ≤ 1048576) (h : i + n ≤ l) (hn : n = 1 ∨ n = 2 ∨ n = 4 ∨ n = 8) :
    Calls Try.prog 23 #[.slice (some ⟨r, 0, none⟩) l c, .int .i64 i, .int .i64 n] w fun e w' => e = .returned (.tuple #[.int .u64 (numAt L i n), .int .i64 0]) ∧ w' = w := by
  have K1 := width_yes n w (by omega)
  have K2 := bad_any (some ⟨r, 0, none⟩) l c i n w hl (by unfold I64; omega) 0 (perr_nat h)
  have hn8 : n ≤ 8 := by omega
  have HR : Hid (Row w r L) := hR
  have HB : Hid (Bts L) := hB
  have HL : Hid (L.length = l) := hL
  clear hn hR hB hL
  go_enter Try.func23, Try.ntmps23
  go_wp2_with (first | (go_at_call 35; refine met K1 ?_) | (go_at_call 36; refine met K2 ?_))
  clear K1 K2
  go_loop [10, 9] (fun q s => ∃ k : Nat, q = .int .i64 k ∧ k ≤ n ∧ s = .int .u64 (numAt L i k)) (fun q _ => (n - (intOf q)).toNat)
  case atStart => exact ⟨0, rfl, Nat.zero_le _, rfl⟩
  case round =>
    obtain ⟨k, rfl, hk, rfl⟩ := hrel
    by_cases hkn : k < n
    · have hce := HR.out.cell (i + k) (by rw [HL.out]; omega)
      have hbk := HB.out.getD (i + k)
      have hs := numAt_bd HB.out i k
      have HJ : Hid (IntKind.u64.wrap (numAt L i k + IntKind.u64.wrap (L.getD (i + k) 0 * 2 ^ (8 * k))) = numAt L i (k + 1)) := by
        rw [numAt_succ]; exact add_wrap _ _ k (by omega) hs.1 hs.2 hbk.1 hbk.2
      clear hs
      generalize hX : L.getD (i + k) 0 = B at *
      generalize numAt L i k = S at *
      clear hX
      go_wp2
      go_round
      case rel => exact ⟨k + 1, by go_num, by omega, by rw [HJ.out]⟩
      case measure => simp [intOf]; omega
    · obtain rfl : k = n := by omega
      go_wp2
      go_ret2
      exact ⟨rfl, rfl⟩

/-! ### Store, Write, Clear -/

/-- The row r holds L' now; nothing else has turned. -/
def RowPost (w : World) (r : Nat) (L' : List Int) (e : Ending) (w' : World) : Prop := e = .returned (.int .i64 0) ∧ Row w' r L' ∧ Ext [r] w w'

theorem rstore_err (a : Option Addr) (l c : Nat) (i n v : Int) (w : World) (hl : l ≤ 1048576) (hi : I64 i) (E : Int) (hE : nerr l i n = E) (h0 : E ≠ 0) :
    Calls Try.prog 28 #[.slice a l c, .int .i64 i, .int .i64 n, .int .u64 v] w fun e w' => e = .returned (.int .i64 E) ∧ w' = w := by
  unfold nerr at hE
  split at hE
  · rename_i h
    have K1 := width_yes n w h
    have K2 := bad_any a l c i n w hl hi E hE
    clear hE h
    go_enter Try.func28, Try.ntmps28
    go_wp2_with (first | (go_at_call 35; refine met K1 ?_) | (go_at_call 36; refine met K2 ?_))
    go_ret
    exact ⟨rfl, rfl⟩
  · rename_i h
    have K1 := width_no n w h
    subst hE
    clear h
    go_enter Try.func28, Try.ntmps28
    go_wp2_with (go_at_call 35; refine met K1 ?_)
    go_ret
    exact ⟨rfl, rfl⟩

theorem rstore_ok (r c : Nat) (L : List Int) (l : Nat) (i n : Nat) (v : Int) (_hv : 0 ≤ v ∧ v < 18446744073709551616) (w : World) (hR : Row w r L) (hL : L.length = l) (hl : l ≤ 1048576) (h : i + n ≤ l) (hn : n = 1 ∨ n = 2 ∨ n = 4 ∨ n = 8) :
    Calls Try.prog 28 #[.slice (some ⟨r, 0, none⟩) l c, .int .i64 i, .int .i64 n, .int .u64 v] w (RowPost w r (put L i (byteOf v) n)) := by
  have K1 := width_yes n w (by omega)
  have K2 := bad_any (some ⟨r, 0, none⟩) l c i n w hl (by unfold I64; omega) 0 (perr_nat h)
  have hn8 : n ≤ 8 := by omega
  have HR : Hid (Row w r L) := hR
  have HL : Hid (L.length = l) := hL
  clear hn hR hL
  go_enter Try.func28, Try.ntmps28
  go_wp2_with (first | (go_at_call 35; refine met K1 ?_) | (go_at_call 36; refine met K2 ?_))
  clear K1 K2
  go_loopw [10] (fun q wr => ∃ k : Nat, q = .int .i64 k ∧ k ≤ n ∧ Row wr r (put L i (byteOf v) k) ∧ Ext [r] w wr) (fun q _ => (n - (intOf q)).toNat)
  case atStart => exact ⟨0, rfl, Nat.zero_le _, HR.out, Ext.refl _ _⟩
  case round =>
    obtain ⟨k, rfl, hk, hrow, hext⟩ := hrel
    by_cases hkn : k < n
    · have hce := hrow.cell (i + k) (by rw [length_put, HL.out]; omega)
      have hfr := hrow.frozen (i + k)
      have HR2 : Hid (Row wr r (put L i (byteOf v) k)) := hrow
      have HE : Hid (Ext [r] w wr) := hext
      clear hrow hext
      go_wp2
      go_roundw
      case rel => exact ⟨k + 1, by go_num, by omega, HR2.out.set _ _, HE.out.trans (Ext.setCell _ _ _ _ (by simp))⟩
      case measure => simp [intOf]; omega
    · go_wp2
      go_ret
      obtain rfl : k = n := by omega
      exact ⟨rfl, hrow, hext⟩

theorem rclear_err (a : Option Addr) (l c : Nat) (i n : Int) (w : World) (hl : l ≤ 1048576) (hi : I64 i) (E : Int) (hE : perr l i n = E) (h0 : E ≠ 0) :
    Calls Try.prog 27 #[.slice a l c, .int .i64 i, .int .i64 n] w fun e w' => e = .returned (.int .i64 E) ∧ w' = w := by
  have K2 := bad_any a l c i n w hl hi E hE
  clear hE
  go_enter Try.func27, Try.ntmps27
  go_wp2_with (go_at_call 36; refine met K2 ?_)
  go_ret
  exact ⟨rfl, rfl⟩

theorem rclear_ok (r c : Nat) (L : List Int) (l : Nat) (i n : Nat) (w : World) (hR : Row w r L) (hL : L.length = l) (hl : l ≤ 1048576) (h : i + n ≤ l) :
    Calls Try.prog 27 #[.slice (some ⟨r, 0, none⟩) l c, .int .i64 i, .int .i64 n] w (RowPost w r (put L i (fun _ => 0) n)) := by
  have K2 := bad_any (some ⟨r, 0, none⟩) l c i n w hl (by unfold I64; omega) 0 (perr_nat h)
  have HR : Hid (Row w r L) := hR
  have HL : Hid (L.length = l) := hL
  clear hR hL
  go_enter Try.func27, Try.ntmps27
  go_wp2_with (go_at_call 36; refine met K2 ?_)
  clear K2
  go_loopw [8] (fun q wr => ∃ k : Nat, q = .int .i64 k ∧ k ≤ n ∧ Row wr r (put L i (fun _ => 0) k) ∧ Ext [r] w wr) (fun q _ => (n - (intOf q)).toNat)
  case atStart => exact ⟨0, rfl, Nat.zero_le _, HR.out, Ext.refl _ _⟩
  case round =>
    obtain ⟨k, rfl, hk, hrow, hext⟩ := hrel
    by_cases hkn : k < n
    · have hce := hrow.cell (i + k) (by rw [length_put, HL.out]; omega)
      have hfr := hrow.frozen (i + k)
      have HR2 : Hid (Row wr r (put L i (fun _ => 0) k)) := hrow
      have HE : Hid (Ext [r] w wr) := hext
      clear hrow hext
      go_wp2
      go_roundw
      case rel => exact ⟨k + 1, by go_num, by omega, HR2.out.set _ _, HE.out.trans (Ext.setCell _ _ _ _ (by simp))⟩
      case measure => simp [intOf]; omega
    · go_wp2
      go_ret
      obtain rfl : k = n := by omega
      exact ⟨rfl, hrow, hext⟩

theorem rwrite_err (a : Option Addr) (l c : Nat) (i : Int) (a2 : Option Addr) (n c2 : Nat) (w : World) (hl : l ≤ 1048576) (hi : I64 i) (E : Int) (hE : perr l i n = E) (h0 : E ≠ 0) :
    Calls Try.prog 25 #[.slice a l c, .int .i64 i, .slice a2 n c2] w fun e w' => e = .returned (.int .i64 E) ∧ w' = w := by
  have K2 := bad_any a l c i n w hl hi E hE
  clear hE
  go_enter Try.func25, Try.ntmps25
  go_wp2_with (go_at_call 36; refine met K2 ?_)
  go_ret
  exact ⟨rfl, rfl⟩

theorem rwrite_ok (r c : Nat) (L : List Int) (l : Nat) (i : Nat) (a2 : Option Addr) (n c2 : Nat) (xs : List Int) (w : World) (hR : Row w r L) (hL : L.length = l) (hl : l ≤ 1048576) (h : i + n ≤ l) (hS : Sl w a2 xs) (hn : xs.length = n) (hne : ∀ ad, a2 = some ad → xs ≠ [] → ad.block ≠ r) :
    Calls Try.prog 25 #[.slice (some ⟨r, 0, none⟩) l c, .int .i64 i, .slice a2 n c2] w (RowPost w r (put L i (fun j => xs.getD j 0) n)) := by
  have K2 := bad_any (some ⟨r, 0, none⟩) l c i n w hl (by unfold I64; omega) 0 (perr_nat h)
  have HR : Hid (Row w r L) := hR
  have HL : Hid (L.length = l) := hL
  have HS : Hid (Sl w a2 xs) := hS
  have HN : Hid (xs.length = n) := hn
  have HNE : Hid (∀ ad, a2 = some ad → xs ≠ [] → ad.block ≠ r) := hne
  clear hR hL hS hn hne
  go_enter Try.func25, Try.ntmps25
  go_wp2_with (go_at_call 36; refine met K2 ?_)
  clear K2
  go_loopw [8] (fun q wr => ∃ k : Nat, q = .int .i64 k ∧ k ≤ n ∧ Row wr r (put L i (fun j => xs.getD j 0) k) ∧ Ext [r] w wr) (fun q _ => (n - (intOf q)).toNat)
  case atStart => exact ⟨0, rfl, Nat.zero_le _, HR.out, Ext.refl _ _⟩
  case round =>
    obtain ⟨k, rfl, hk, hrow, hext⟩ := hrel
    by_cases hkn : k < n
    · have hce := hrow.cell (i + k) (by rw [length_put, HL.out]; omega)
      have hfr := hrow.frozen (i + k)
      have HR2 : Hid (Row wr r (put L i (fun j => xs.getD j 0) k)) := hrow
      have HE : Hid (Ext [r] w wr) := hext
      have hS2 : Sl wr a2 xs := HS.out.keep hext (fun ad had => by simpa using HNE.out ad had (by rintro rfl; have := HN.out; simp at this; omega))
      obtain ⟨b2, o2, rfl⟩ : ∃ b o, a2 = some ⟨b, o, none⟩ := by
        rcases hS2.at_ with h | ⟨b, o, h, _⟩
        · have := HN.out; rw [h] at this; simp at this; omega
        · exact ⟨b, o, h⟩
      have hce2 := hS2.cellAt k (by rw [HN.out]; exact hkn)
      generalize hX : xs.getD k 0 = x at *
      have HX : Hid (xs.getD k 0 = x) := hX
      clear hrow hext hS2 hX
      go_wp2
      go_roundw
      case rel =>
        refine ⟨k + 1, by go_num, by omega, ?_, HE.out.trans (Ext.setCell _ _ _ _ (by simp))⟩
        rw [put, HX.out]; exact HR2.out.set _ _
      case measure => simp [intOf]; omega
    · go_wp2
      go_ret
      obtain rfl : k = n := by omega
      exact ⟨rfl, hrow, hext⟩

/-! ### Bytes, Move -/

theorem rbytes_err (a : Option Addr) (l c : Nat) (i n : Int) (w : World) (hl : l ≤ 1048576) (hi : I64 i) (E : Int) (hE : perr l i n = E) (h0 : E ≠ 0) :
    Calls Try.prog 24 #[.slice a l c, .int .i64 i, .int .i64 n] w fun e w' => e = .returned (.tuple #[.slice none 0 0, .int .i64 E]) ∧ w' = w := by
  have K2 := bad_any a l c i n w hl hi E hE
  clear hE
  go_enter Try.func24, Try.ntmps24
  go_wp2_with (go_at_call 36; refine met K2 ?_)
  go_ret2
  exact ⟨rfl, rfl⟩

/-- The bytes xs in new memory, and no error; nothing that was there has turned. -/
def OwnPost2 (w : World) (xs : List Int) (n : Nat) (e : Ending) (w' : World) : Prop :=
  ∃ b c, e = .returned (.tuple #[.slice (some ⟨b, 0, none⟩) n c, .int .i64 0]) ∧ Owns w' b c xs ∧ Ext [] w w' ∧ w.heap.size ≤ b

theorem rbytes_ok (r : Nat) (L : List Int) (l : Nat) (i n : Nat) (w : World) (hR : Row w r L) (hB : Bts L) (hL : L.length = l) (hl : l ≤ 1048576) (h : i + n ≤ l) :
    Calls Try.prog 24 #[.slice (some ⟨r, 0, none⟩) l l, .int .i64 i, .int .i64 n] w (OwnPost2 w (cut L i n) n) := by
  have K2 := bad_any (some ⟨r, 0, none⟩) l l i n w hl (by unfold I64; omega) 0 (perr_nat h)
  have hO : Owns (w.alloc (.cells #[] 5)) w.heap.size 0 [] := ⟨⟨#[], heap_alloc_new w _, rfl, Nat.le_refl _, rfl⟩, Nat.zero_le _, by intro x hx; simp at hx⟩
  have hS : ∀ o, (0 < n → o = i) → Sl w (some ⟨r, o, none⟩) (cut L i n) := by
    intro o ho
    refine ⟨?_, bts_cut hB i n⟩
    by_cases h0 : n = 0
    · left; subst h0; rfl
    · right
      obtain rfl := ho (by omega)
      refine ⟨r, o, rfl, fun j hj => ?_⟩
      rw [length_cut] at hj
      rw [getD_cut L o n j hj]
      exact hR.cell (o + j) (by omega)
  by_cases hil : i < l
  · obtain ⟨b, c', w2, hr, hO2, hE2, hbb⟩ := run_append_bytes (w.alloc (.cells #[] 5)) 29 w.heap.size 0 0 [] (cut L i n) (some ⟨r, i, none⟩) (i + n - i) (l - i) hO ((hS i (fun _ => rfl)).keep (Ext.alloc [] w _) (by simp)) rfl (by rw [length_cut]; omega) (by omega) w.heap.size (Nat.le_refl _)
    rw [Nat.zero_add] at hr
    rw [List.nil_append] at hO2
    have HO : Hid (Owns w2 b c' (cut L i n)) := hO2
    have HE : Hid (Ext [] w w2) := ((Ext.alloc [w.heap.size] w _).trans hE2).drop (by simp)
    have hne : ¬ l = i := by omega
    clear hO hO2 hE2 hS hR hB hL
    go_enter Try.func24, Try.ntmps24
    go_wp2_with (first | (go_at_call 36; refine met K2 ?_) | (at_builtin; refine wpList_append_run rfl _ _ 29 rfl _ _ _ rfl rfl hr ?_))
    go_ret2
    exact ⟨b, c', rfl, HO.out, HE.out, hbb⟩
  · obtain rfl : i = l := by omega
    obtain rfl : n = 0 := by omega
    obtain ⟨b, c', w2, hr, hO2, hE2, hbb⟩ := run_append_bytes (w.alloc (.cells #[] 5)) 29 w.heap.size 0 0 [] (cut L i 0) (some ⟨r, 0, none⟩) 0 0 hO ((hS 0 (fun h => by omega)).keep (Ext.alloc [] w _) (by simp)) rfl (length_cut _ _ _) (by omega) w.heap.size (Nat.le_refl _)
    rw [List.nil_append] at hO2
    have HO : Hid (Owns w2 b c' (cut L i 0)) := hO2
    have HE : Hid (Ext [] w w2) := ((Ext.alloc [w.heap.size] w _).trans hE2).drop (by simp)
    clear hO hO2 hE2 hS hR hB hL
    go_enter Try.func24, Try.ntmps24
    go_wp2_with (first | (go_at_call 36; refine met K2 ?_) | (at_builtin; refine wpList_append_run rfl _ _ 29 rfl _ _ _ rfl rfl hr ?_))
    go_ret2
    exact ⟨b, c', rfl, HO.out, HE.out, hbb⟩

/-- As RowPost, where new memory was made on the way. -/
theorem rmove_err (r : Nat) (L : List Int) (l : Nat) (t i n : Int) (w : World) (hR : Row w r L) (hB : Bts L) (hL : L.length = l) (hl : l ≤ 1048576) (hi : I64 i) (ht : I64 t) (E : Int) (hE : merr l t i n = E) (h0 : E ≠ 0) :
    Calls Try.prog 26 #[.slice (some ⟨r, 0, none⟩) l l, .int .i64 t, .int .i64 i, .int .i64 n] w fun e w' => e = .returned (.int .i64 E) ∧ Ext [] w w' := by
  unfold merr at hE
  split at hE
  · rename_i hz
    obtain ⟨I, N, rfl, rfl, hb⟩ := perr_ok hz
    have K1 := rbytes_ok r L l I N w hR hB hL hl hb
    clear hz hR
    go_enter Try.func26, Try.ntmps26
    go_wp2_with fail
    refine K1.mono ?_
    rintro e w1 ⟨b, c, rfl, hO1, hE1, _⟩
    have K2 := rwrite_err (some ⟨r, 0, none⟩) l l t (some ⟨b, 0, none⟩) N c w1 hl ht E hE h0
    clear K1 hO1 hE
    go_wp2_with (go_at_call 25; refine met K2 ?_)
    go_ret
    exact ⟨rfl, hE1⟩
  · have K1 := rbytes_err (some ⟨r, 0, none⟩) l l i n w hl hi E hE h0
    clear hE hR hB hL
    go_enter Try.func26, Try.ntmps26
    go_wp2_with (go_at_call 24; refine met K1 ?_)
    go_ret
    exact ⟨rfl, Ext.refl _ _⟩

theorem rmove_ok (r : Nat) (L : List Int) (l : Nat) (t i n : Nat) (w : World) (hR : Row w r L) (hB : Bts L) (hL : L.length = l) (hl : l ≤ 1048576) (h : i + n ≤ l) (h2 : t + n ≤ l) :
    Calls Try.prog 26 #[.slice (some ⟨r, 0, none⟩) l l, .int .i64 t, .int .i64 i, .int .i64 n] w (RowPost w r (put L t (fun j => (cut L i n).getD j 0) n)) := by
  have K1 := rbytes_ok r L l i n w hR hB hL hl h
  have hrl := hR.lt
  go_enter Try.func26, Try.ntmps26
  go_wp2_with fail
  refine K1.mono ?_
  clear K1
  rintro e w1 ⟨b, c, rfl, hO1, hE1, hb⟩
  have K2 := rwrite_ok r l L l t (some ⟨b, 0, none⟩) n c (cut L i n) w1 (hR.keep hE1 (by simp)) hL hl h2 hO1.sl (length_cut _ _ _) (fun ad had _ => by cases had; simp; omega)
  have HE1 : Hid (Ext [] w w1) := hE1
  clear hE1 hO1 hR hB hL
  go_wp2_with (go_at_call 25; refine K2.mono ?_; rintro e w2 ⟨rfl, hR2, hE2⟩)
  go_ret
  exact ⟨rfl, hR2, (HE1.out.mono (by simp)).trans hE2⟩

end Go.Proofs.Ytnnagkinkckoeaa
