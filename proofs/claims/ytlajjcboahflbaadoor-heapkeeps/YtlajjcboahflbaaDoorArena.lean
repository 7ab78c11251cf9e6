/-
  What each function of package arena does: one contract a function and a way through it; no statement is proved here.
-/
import Derived.Test.YtlajjcboahflbaaDoorABase
namespace Go.Proofs.YtlajjcboahflbaaDoor
open Go.RowKit

variable {ox : Nat}

/-- The error of n bytes at place i of l. -/
def perr (l : Nat) (i n : Int) : Int := if n < 0 then 2 else if i < 0 ∨ (l : Int) - i < n then 5 else 0
/-- The error of a number of n bytes at place i of l. -/
def nerr (l : Nat) (i n : Int) : Int := if n = 1 ∨ n = 2 ∨ n = 4 ∨ n = 8 then perr l i n else 2

theorem perr_ok {l : Nat} {i n : Int} (h : perr l i n = 0) : ∃ I N : Nat, i = I ∧ n = N ∧ I + N ≤ l := by
  unfold perr at h
  split at h
  · simp at h
  · split at h
    · simp at h
    · exact ⟨i.toNat, n.toNat, by omega, by omega, by omega⟩
theorem perr_nat {l I N : Nat} (h : I + N ≤ l) : perr l I N = 0 := by
  unfold perr; rw [if_neg (by omega), if_neg (by omega)]
theorem perr_vals (l : Nat) (i n : Int) : perr l i n = 0 ∨ perr l i n = 2 ∨ perr l i n = 5 := by
  unfold perr; split; simp; split <;> simp
theorem nerr_vals (l : Nat) (i n : Int) : nerr l i n = 0 ∨ nerr l i n = 2 ∨ nerr l i n = 5 := by
  unfold nerr; split; exact perr_vals l i n; simp
theorem nerr_ok {l : Nat} {i n : Int} (h : nerr l i n = 0) : ∃ I N : Nat, i = I ∧ n = N ∧ I + N ≤ l ∧ (N = 1 ∨ N = 2 ∨ N = 4 ∨ N = 8) := by
  unfold nerr at h
  split at h
  · obtain ⟨I, N, rfl, rfl, hl⟩ := perr_ok h
    exact ⟨I, N, rfl, rfl, hl, by omega⟩
  · simp at h

abbrev I64 (i : Int) : Prop := -9223372036854775808 ≤ i ∧ i < 9223372036854775808

theorem part_nil (i n : Int) (w : World) : Calls Tryd.prog 67 #[.pointer none, .int .i64 i, .int .i64 n] w fun e w' => e = .returned (.tuple #[.slice none 0 0, .int .i64 2]) ∧ w' = w := by
  go_enter Tryd.func67, Tryd.ntmps67
  go_wp2
  go_ret2
  exact ⟨rfl, rfl⟩

theorem part_neg (i n : Int) (p : Nat) (w : World) (h : n < 0) : Calls Tryd.prog 67 #[.pointer (some ⟨p, ox, none⟩), .int .i64 i, .int .i64 n] w fun e w' => e = .returned (.tuple #[.slice none 0 0, .int .i64 2]) ∧ w' = w := by
  go_enter Tryd.func67, Tryd.ntmps67
  go_wp2
  go_ret2
  exact ⟨rfl, rfl⟩

theorem part_out (i n : Int) (p : Nat) (w : World) (a : Option Addr) (l c : Nat) (hc : w.cell? ⟨p, ox, none⟩ = some (.slice a l c)) (hl : l ≤ 1048576) (h : 0 ≤ n) (hi : I64 i) (h2 : i < 0 ∨ (l : Int) - i < n) : Calls Tryd.prog 67 #[.pointer (some ⟨p, ox, none⟩), .int .i64 i, .int .i64 n] w fun e w' => e = .returned (.tuple #[.slice none 0 0, .int .i64 5]) ∧ w' = w := by
  by_cases hi0 : i < 0
  · go_enter Tryd.func67, Tryd.ntmps67
    go_wp2
    go_ret2
    exact ⟨rfl, rfl⟩
  · have h3 : (l : Int) - i < n := by omega
    go_enter Tryd.func67, Tryd.ntmps67
    go_wp2
    go_ret2
    exact ⟨rfl, rfl⟩

theorem part_err (i n : Int) (p g : Nat) (w : World) (L : List Int) (hA : Ar ox w p g L) (hi : I64 i) (e : Int) (he : perr L.length i n = e) (h0 : e ≠ 0) : Calls Tryd.prog 67 #[.pointer (some ⟨p, ox, none⟩), .int .i64 i, .int .i64 n] w fun r w' => r = .returned (.tuple #[.slice none 0 0, .int .i64 e]) ∧ w' = w := by
  subst he
  unfold perr at h0 ⊢
  split
  · exact part_neg i n p w ‹_›
  · split
    · exact part_out i n p w _ _ _ hA.cell hA.len (by omega) hi ‹_›
    · rename_i h1 h2; exact absurd (by rw [if_neg h1, if_neg h2]) h0

/-- Where a part of n bytes at place i lies: an empty one lies at the head. -/
def off (i n : Nat) : Nat := if n = 0 then 0 else i
theorem off_pos {i n : Nat} (h : 0 < n) : off i n = i := by unfold off; rw [if_neg (by omega)]

theorem part_in (i n : Nat) (p g : Nat) (w : World) (L : List Int) (hA : Ar ox w p g L) (h : i + n ≤ L.length) : Calls Tryd.prog 67 #[.pointer (some ⟨p, ox, none⟩), .int .i64 i, .int .i64 n] w fun e w' => e = .returned (.tuple #[.slice (some ⟨g, off i n, none⟩) n n, .int .i64 0]) ∧ w' = w := by
  have hc := hA.cell
  have hl := hA.len
  clear hA
  generalize L.length = l at *
  have h3 : ¬ (l : Int) - i < n := by omega
  by_cases h0 : n = 0
  · subst h0
    rw [show off i 0 = 0 from rfl]
    go_enter Tryd.func67, Tryd.ntmps67
    go_wp2
    go_ret2
    exact ⟨rfl, rfl⟩
  · rw [off_pos (by omega)]
    go_enter Tryd.func67, Tryd.ntmps67
    go_wp2
    go_ret2
    exact ⟨rfl, rfl⟩

theorem number_bad (i n : Int) (q : Option Addr) (w : World) (h : ¬ (n = 1 ∨ n = 2 ∨ n = 4 ∨ n = 8)) : Calls Tryd.prog 76 #[.pointer q, .int .i64 i, .int .i64 n] w fun e w' => e = .returned (.tuple #[.slice none 0 0, .int .i64 2]) ∧ w' = w := by
  have h1 : (n == 1) = false := by simp; omega
  have h2 : (n == 2) = false := by simp; omega
  have h3 : (n == 4) = false := by simp; omega
  have h4 : (n == 8) = false := by simp; omega
  clear h
  go_enter Tryd.func76, Tryd.ntmps76
  go_wp2
  go_ret2
  exact ⟨rfl, rfl⟩

theorem number_nil (i n : Int) (w : World) : Calls Tryd.prog 76 #[.pointer none, .int .i64 i, .int .i64 n] w fun e w' => e = .returned (.tuple #[.slice none 0 0, .int .i64 2]) ∧ w' = w := by
  by_cases h : n = 1 ∨ n = 2 ∨ n = 4 ∨ n = 8
  · rcases h with rfl | rfl | rfl | rfl
    all_goals
      go_enter Tryd.func76, Tryd.ntmps76
      go_wp2_with (go_at_call 67; refine met (part_nil _ _ _) ?_)
      go_ret2
      exact ⟨rfl, rfl⟩
  · exact number_bad i n none w h

theorem number_err (i n : Int) (p g : Nat) (w : World) (L : List Int) (hA : Ar ox w p g L) (hi : I64 i) (e : Int) (he : nerr L.length i n = e) (h0 : e ≠ 0) : Calls Tryd.prog 76 #[.pointer (some ⟨p, ox, none⟩), .int .i64 i, .int .i64 n] w fun r w' => r = .returned (.tuple #[.slice none 0 0, .int .i64 e]) ∧ w' = w := by
  unfold nerr at he
  split at he
  · rename_i h
    have K := part_err i n p g w L hA hi e he h0
    clear hA he
    rcases h with rfl | rfl | rfl | rfl
    all_goals
      go_enter Tryd.func76, Tryd.ntmps76
      go_wp2_with (go_at_call 67; refine met K ?_)
      go_ret2
      exact ⟨rfl, rfl⟩
  · subst he
    exact number_bad i n _ w ‹_›

theorem number_in (i n : Nat) (p g : Nat) (w : World) (L : List Int) (hA : Ar ox w p g L) (h : i + n ≤ L.length) (hn : n = 1 ∨ n = 2 ∨ n = 4 ∨ n = 8) : Calls Tryd.prog 76 #[.pointer (some ⟨p, ox, none⟩), .int .i64 i, .int .i64 n] w fun e w' => e = .returned (.tuple #[.slice (some ⟨g, i, none⟩) n n, .int .i64 0]) ∧ w' = w := by
  have K : Calls Tryd.prog 67 #[.pointer (some ⟨p, ox, none⟩), .int .i64 i, .int .i64 n] w fun e w' => e = .returned (.tuple #[.slice (some ⟨g, i, none⟩) n n, .int .i64 0]) ∧ w' = w :=
    (part_in i n p g w L hA h).mono fun e w' ⟨he, hw⟩ => ⟨by rw [he, off_pos (by omega)], hw⟩
  clear hA h
  rcases hn with rfl | rfl | rfl | rfl
  all_goals
    go_enter Tryd.func76, Tryd.ntmps76
    go_wp2_with (go_at_call 67; refine met K ?_)
    go_ret2
    exact ⟨rfl, rfl⟩


theorem anew_bad (s : Int) (w : World) (h : s < 0 ∨ 1048576 < s) : Calls Tryd.prog 61 #[.int .i64 s] w fun e w' => e = .returned (.tuple #[.pointer none, .int .i64 2]) ∧ w' = w := by
  rcases h with h | h
  · go_enter Tryd.func61, Tryd.ntmps61
    go_wp2
    go_ret2
    exact ⟨rfl, rfl⟩
  · have h2 : ¬ s < 0 := by omega
    go_enter Tryd.func61, Tryd.ntmps61
    go_wp2
    go_ret2
    exact ⟨rfl, rfl⟩

theorem info5 : (Tryd.prog.info? 5).map (fun i => (i.zero, i.size, i.bytes)) = some (some (.int .u8 0), 1, 1) := by kernel_rfl

/-- A new arena: two new blocks. -/
def ANewPost (w : World) (n : Nat) (e : Ending) (w' : World) : Prop :=
  e = .returned (.tuple #[.pointer (some ⟨w.heap.size + 1, 0, none⟩), .int .i64 0]) ∧ Ar 0 w' (w.heap.size + 1) w.heap.size (List.replicate n 0) ∧ Ext [] w w'

set_option maxRecDepth 100000 in
theorem anew_ok (n : Nat) (w : World) (h : n ≤ 1048576) : Calls Tryd.prog 61 #[.int .i64 n] w (ANewPost w n) := by
  obtain ⟨i, hi, hz0, hz1, hz2⟩ := info_parts info5
  have hr := run_make (P := Tryd.prog) w 40 5 i _ Tryd.underlying40 hi hz0 .i64 .i64 n n (by omega) (Int.le_refl _) (by rw [hz2]; omega) (by omega)
  rw [hz1] at hr
  simp only [Int.toNat_natCast] at hr
  have hm : madeCells (Value.int IntKind.u8 0).cells (n * 1) = ((List.replicate n (0 : Int)).map (Value.int .u8)).toArray := by
    apply Array.toList_inj.1
    rw [show (Value.int IntKind.u8 0).cells = #[.int .u8 0] from rfl, toList_madeCells_one]
    simp
  rw [hm] at hr
  clear hm hz0 hz1 hz2 hi i
  generalize hX : ((List.replicate n (0 : Int)).map (Value.int .u8)).toArray = X at hr
  have HX : Hid (((List.replicate n (0 : Int)).map (Value.int .u8)).toArray = X) := hX
  clear hX
  go_enter Tryd.func61, Tryd.ntmps61
  go_wp2
  go_ret2
  refine ⟨?_, ⟨?_, ?_, ?_, ?_⟩, ?_⟩
  · rfl
  · rw [List.length_replicate]
    exact ⟨_, _, heap_alloc2_new w _ _, by decide, rfl⟩
  · unfold Row
    rw [HX.out]
    exact heap_alloc2_old w _ _
  · simpa using h
  · intro x hx
    have := List.eq_of_mem_replicate hx
    omega
  · exact (Ext.alloc [] _ _).trans (Ext.alloc [] _ _)


/-! ### Store -/

theorem store_nil (i n v : Int) (w : World) : Calls Tryd.prog 51 #[.pointer none, .int .i64 i, .int .i64 n, .int .u64 v] w fun e w' => e = .returned (.int .i64 2) ∧ w' = w := by
  go_enter Tryd.func51, Tryd.ntmps51
  go_wp2_with (go_at_call 76; refine met (number_nil _ _ _) ?_)
  go_ret
  exact ⟨rfl, rfl⟩

theorem store_err (i n v : Int) (p g : Nat) (w : World) (L : List Int) (hA : Ar ox w p g L) (hi : I64 i) (e : Int) (he : nerr L.length i n = e) (h0 : e ≠ 0) : Calls Tryd.prog 51 #[.pointer (some ⟨p, ox, none⟩), .int .i64 i, .int .i64 n, .int .u64 v] w fun r w' => r = .returned (.int .i64 e) ∧ w' = w := by
  have K := number_err i n p g w L hA hi e he h0
  clear hA he hi
  go_enter Tryd.func51, Tryd.ntmps51
  go_wp2_with (go_at_call 76; refine met K ?_)
  go_ret
  exact ⟨rfl, rfl⟩

/-- The k-th byte of v, the lowest first. -/
def byteOf (v : Int) (k : Nat) : Int := v / 2 ^ (8 * k) % 256
theorem byteOf_bd (v : Int) (k : Nat) : 0 ≤ byteOf v k ∧ byteOf v k < 256 := by
  unfold byteOf; omega

/-- The arena's bytes are L' now; nothing else has turned. -/
def TurnPost (ox : Nat) (w : World) (p g : Nat) (L' : List Int) (e : Ending) (w' : World) : Prop := e = .returned (.int .i64 0) ∧ Ar ox w' p g L' ∧ Ext [g] w w'

theorem store_ok (i n : Nat) (v : Int) (_hv : 0 ≤ v ∧ v < 18446744073709551616) (p g : Nat) (w : World) (L : List Int) (hA : Ar ox w p g L) (h : i + n ≤ L.length) (hn : n = 1 ∨ n = 2 ∨ n = 4 ∨ n = 8) :
    Calls Tryd.prog 51 #[.pointer (some ⟨p, ox, none⟩), .int .i64 i, .int .i64 n, .int .u64 v] w (TurnPost ox w p g (put L i (byteOf v) n)) := by
  have K := number_in i n p g w L hA h hn
  have hl := hA.len
  have hn8 : n ≤ 8 := by omega
  have HA : Hid (Ar ox w p g L) := hA
  clear hA hn
  go_enter Tryd.func51, Tryd.ntmps51
  go_wp2_with (go_at_call 76; refine met K ?_)
  clear K
  go_loopw [24] (fun q wr => ∃ k : Nat, q = .int .i64 k ∧ k ≤ n ∧ Row wr g (put L i (byteOf v) k) ∧ Ext [g] w wr) (fun q _ => (n - (intOf q)).toNat)
  case atStart => exact ⟨0, rfl, Nat.zero_le _, HA.out.row, Ext.refl _ _⟩
  case round =>
    obtain ⟨k, rfl, hk, hrow, hext⟩ := hrel
    by_cases hkn : k < n
    · have hce := hrow.cell (i + k) (by rw [length_put]; omega)
      have hfr := hrow.frozen (i + k)
      have HR : Hid (Row wr g (put L i (byteOf v) k)) := hrow
      have HE : Hid (Ext [g] w wr) := hext
      clear hrow hext
      go_wp2
      go_roundw
      case rel =>
        refine ⟨k + 1, by go_num, by omega, ?_, HE.out.trans (Ext.setCell _ _ _ _ (by simp))⟩
        exact HR.out.set _ _
      case measure => simp [intOf]; omega
    · go_wp2
      go_ret
      obtain rfl : k = n := by omega
      refine ⟨rfl, HA.out.turn hext (length_put _ _ _ _) hrow ?_, hext⟩
      exact HA.out.ok.put i _ k h (fun j _ => byteOf_bd v j)

/-! ### Load -/

theorem load_nil (i n : Int) (w : World) : Calls Tryd.prog 50 #[.pointer none, .int .i64 i, .int .i64 n] w fun e w' => e = .returned (.tuple #[.int .u64 0, .int .i64 2]) ∧ w' = w := by
  go_enter Tryd.func50, Tryd.ntmps50
  go_wp2_with (go_at_call 76; refine met (number_nil _ _ _) ?_)
  go_ret2
  exact ⟨rfl, rfl⟩

theorem load_err (i n : Int) (p g : Nat) (w : World) (L : List Int) (hA : Ar ox w p g L) (hi : I64 i) (e : Int) (he : nerr L.length i n = e) (h0 : e ≠ 0) : Calls Tryd.prog 50 #[.pointer (some ⟨p, ox, none⟩), .int .i64 i, .int .i64 n] w fun r w' => r = .returned (.tuple #[.int .u64 0, .int .i64 e]) ∧ w' = w := by
  have K := number_err i n p g w L hA hi e he h0
  clear hA he hi
  go_enter Tryd.func50, Tryd.ntmps50
  go_wp2_with (go_at_call 76; refine met K ?_)
  go_ret2
  exact ⟨rfl, rfl⟩

/-- The number of n bytes that stands at place i of L. -/
def numAt (L : List Int) (i n : Nat) : Int := numTo (fun j => L.getD (i + j) 0) n
theorem numAt_bd {L : List Int} (h : Bts L) (i n : Nat) : 0 ≤ numAt L i n ∧ numAt L i n < 2 ^ (8 * n) := numTo_bd _ _ fun j _ => h.getD (i + j)
theorem numAt_zero (L : List Int) (i : Nat) : numAt L i 0 = 0 := rfl
theorem numAt_succ (L : List Int) (i n : Nat) : numAt L i (n + 1) = numAt L i n + L.getD (i + n) 0 * 2 ^ (8 * n) := rfl

theorem ret2_u64 {a b : Int} (h : a = b) : Ending.returned (.tuple #[.int .u64 a, .int .i64 0]) = .returned (.tuple #[.int .u64 b, .int .i64 0]) := by rw [h]

theorem load_ok (i n : Nat) (p g : Nat) (w : World) (L : List Int) (hA : Ar ox w p g L) (h : i + n ≤ L.length) (hn : n = 1 ∨ n = 2 ∨ n = 4 ∨ n = 8) :
    Calls Tryd.prog 50 #[.pointer (some ⟨p, ox, none⟩), .int .i64 i, .int .i64 n] w fun e w' => e = .returned (.tuple #[.int .u64 (numAt L i n), .int .i64 0]) ∧ w' = w := by
  have K := number_in i n p g w L hA h hn
  have hl := hA.len
  have hn8 : n ≤ 8 := by omega
  have HA : Hid (Ar ox w p g L) := hA
  clear hA hn
  go_enter Tryd.func50, Tryd.ntmps50
  go_wp2_with (go_at_call 76; refine met K ?_)
  clear K
  go_loop [25, 10] (fun q r => ∃ k : Nat, q = .int .i64 k ∧ k ≤ n ∧ r = .int .u64 (numAt L i k)) (fun q _ => (n - (intOf q)).toNat)
  case atStart => exact ⟨0, rfl, Nat.zero_le _, rfl⟩
  case round =>
    obtain ⟨k, rfl, hk, rfl⟩ := hrel
    by_cases hkn : k < n
    · have hce := HA.out.row.cell (i + k) (by omega)
      have hbk := HA.out.ok.getD (i + k)
      have hs := numAt_bd HA.out.ok i k
      have HJ : Hid (bits .or .u64 (numAt L i k) (IntKind.u64.wrap (L.getD (i + k) 0 * 2 ^ (8 * k))) = numAt L i (k + 1)) := by
        rw [numAt_succ]; exact or_join _ _ k (by omega) hs.1 hs.2 hbk.1 hbk.2
      clear hs
      generalize hB : L.getD (i + k) 0 = B at *
      generalize numAt L i k = S at *
      have HB : Hid (L.getD (i + k) 0 = B) := hB
      clear hB
      go_wp2
      go_round
      case rel => exact ⟨k + 1, by go_num, by omega, by rw [HJ.out]⟩
      case measure => simp [intOf]; omega
    · obtain rfl : k = n := by omega
      go_wp2
      go_ret2
      exact ⟨rfl, rfl⟩

end Go.Proofs.YtlajjcboahflbaaDoor
