/-
  OpsArith, walked through; its frame is in LawArith.
-/
import Derived.Test.YtdedehfeekpioaaRArA
import Derived.Test.YtdedehfeekpioaaRArB
import Derived.Test.YtdedehfeekpioaaRArC
import Derived.Test.YtdedehfeekpioaaRArD
import Derived.Test.YtdedehfeekpioaaAwake
import Derived.Test.YtdedehfeekpioaaSame
import Derived.Deep.Cut
namespace Go.Proofs.Ytdedehfeekpioaa
open Go.RowKit

theorem ariths (way : Int) (a b : Int) (s s' : ByteArray) (t t' : Int) (ba ba' : Option Addr) (bl bc bl' bc' : Nat) (ha : U a) (hb : U b) :
    ∃ n e, (∀ u, Calls Try.prog 8 #[.int .i64 way, clV a s t ba bl bc, clV b s' t' ba' bl' bc'] u (SayPost u (anV n e))) ∧ (∀ u, Calls Try.prog 9 #[.int .i64 way, clV a s t ba bl bc, clV b s' t' ba' bl' bc'] u (SayPost u (anV n e))) := by
  by_cases h : way < 1 ∨ 19 < way
  · exact ⟨0, 2, fun u => arith_bad way a b s s' t t' ba ba' bl bc bl' bc' u h, fun u => rarith_bad way a b s s' t t' ba ba' bl bc bl' bc' u h⟩
  obtain rfl | rfl | rfl | rfl | rfl | rfl | rfl | rfl | rfl | rfl | rfl | rfl | rfl | rfl | rfl | rfl | rfl | rfl | rfl : way = 1 ∨ way = 2 ∨ way = 3 ∨ way = 4 ∨ way = 5 ∨ way = 6 ∨ way = 7 ∨ way = 8 ∨ way = 9 ∨ way = 10 ∨ way = 11 ∨ way = 12 ∨ way = 13 ∨ way = 14 ∨ way = 15 ∨ way = 16 ∨ way = 17 ∨ way = 18 ∨ way = 19 := by omega
  · exact ⟨_, 0, fun u => arith_int 1 a b s s' t t' ba ba' bl bc bl' bc' u (by omega) (by omega) ha hb (by omega), fun u => rarith_1 a b s s' t t' ba ba' bl bc bl' bc' u ha hb⟩
  · exact ⟨_, 0, fun u => arith_int 2 a b s s' t t' ba ba' bl bc bl' bc' u (by omega) (by omega) ha hb (by omega), fun u => rarith_2 a b s s' t t' ba ba' bl bc bl' bc' u ha hb⟩
  · exact ⟨_, 0, fun u => arith_int 3 a b s s' t t' ba ba' bl bc bl' bc' u (by omega) (by omega) ha hb (by omega), fun u => rarith_3 a b s s' t t' ba ba' bl bc bl' bc' u ha hb⟩
  · by_cases hz : b = 0
    · subst hz
      exact ⟨0, 9, fun u => arith_zero 4 a s s' t t' ba ba' bl bc bl' bc' u (by omega), fun u => rarith_zero4 a 0 s s' t t' ba ba' bl bc bl' bc' u rfl⟩
    · exact ⟨_, 0, fun u => arith_int 4 a b s s' t t' ba ba' bl bc bl' bc' u (by omega) (by omega) ha hb (fun _ => hz), fun u => rarith_4 a b s s' t t' ba ba' bl bc bl' bc' u ha hb hz⟩
  · by_cases hz : b = 0
    · subst hz
      exact ⟨0, 9, fun u => arith_zero 5 a s s' t t' ba ba' bl bc bl' bc' u (by omega), fun u => rarith_zero5 a 0 s s' t t' ba ba' bl bc bl' bc' u rfl⟩
    · exact ⟨_, 0, fun u => arith_int 5 a b s s' t t' ba ba' bl bc bl' bc' u (by omega) (by omega) ha hb (fun _ => hz), fun u => rarith_5 a b s s' t t' ba ba' bl bc bl' bc' u ha hb hz⟩
  · exact ⟨_, 0, fun u => arith_int 6 a b s s' t t' ba ba' bl bc bl' bc' u (by omega) (by omega) ha hb (by omega), fun u => rarith_6 a b s s' t t' ba ba' bl bc bl' bc' u ha hb⟩
  · exact ⟨_, 0, fun u => arith_int 7 a b s s' t t' ba ba' bl bc bl' bc' u (by omega) (by omega) ha hb (by omega), fun u => rarith_7 a b s s' t t' ba ba' bl bc bl' bc' u ha hb⟩
  · exact ⟨_, 0, fun u => arith_int 8 a b s s' t t' ba ba' bl bc bl' bc' u (by omega) (by omega) ha hb (by omega), fun u => rarith_8 a b s s' t t' ba ba' bl bc bl' bc' u ha hb⟩
  · exact ⟨_, 0, fun u => arith_int 9 a b s s' t t' ba ba' bl bc bl' bc' u (by omega) (by omega) ha hb (by omega), fun u => rarith_9 a b s s' t t' ba ba' bl bc bl' bc' u ha hb⟩
  · exact ⟨_, 0, fun u => arith_int 10 a b s s' t t' ba ba' bl bc bl' bc' u (by omega) (by omega) ha hb (by omega), fun u => rarith_10 a b s s' t t' ba ba' bl bc bl' bc' u ha hb⟩
  · exact ⟨_, 0, fun u => arith_int 11 a b s s' t t' ba ba' bl bc bl' bc' u (by omega) (by omega) ha hb (by omega), fun u => rarith_11 a b s s' t t' ba ba' bl bc bl' bc' u ha hb⟩
  · exact ⟨_, 0, fun u => arith_flt 12 a b s s' t t' ba ba' bl bc bl' bc' u (by omega) (by omega), fun u => rarith_12 a b s s' t t' ba ba' bl bc bl' bc' u⟩
  · exact ⟨_, 0, fun u => arith_flt 13 a b s s' t t' ba ba' bl bc bl' bc' u (by omega) (by omega), fun u => rarith_13 a b s s' t t' ba ba' bl bc bl' bc' u⟩
  · exact ⟨_, 0, fun u => arith_flt 14 a b s s' t t' ba ba' bl bc bl' bc' u (by omega) (by omega), fun u => rarith_14 a b s s' t t' ba ba' bl bc bl' bc' u⟩
  · exact ⟨_, 0, fun u => arith_flt 15 a b s s' t t' ba ba' bl bc bl' bc' u (by omega) (by omega), fun u => rarith_15 a b s s' t t' ba ba' bl bc bl' bc' u⟩
  · exact ⟨_, 0, fun u => arith_flt 16 a b s s' t t' ba ba' bl bc bl' bc' u (by omega) (by omega), fun u => rarith_16 a b s s' t t' ba ba' bl bc bl' bc' u⟩
  · exact ⟨_, 0, fun u => arith_str a b s s' t t' ba ba' bl bc bl' bc' u, fun u => rarith_str a b s s' t t' ba ba' bl bc bl' bc' u⟩
  · exact ⟨_, 0, fun u => arith_and a b s s' t t' ba ba' bl bc bl' bc' u, fun u => rarith_and a b s s' t t' ba ba' bl bc bl' bc' u⟩
  · exact ⟨_, 0, fun u => arith_or a b s s' t t' ba ba' bl bc bl' bc' u, fun u => rarith_or a b s s' t t' ba ba' bl bc bl' bc' u⟩

set_option maxRecDepth 100000 in
set_option maxHeartbeats 4000000 in
theorem arith_walk (way : Int) (a b : Int) (s s' : ByteArray) (t t' : Int) (ba ba' : Option Addr) (bl bc bl' bc' : Nat) (w : World) (ha : U a) (hb : U b) :
    Calls Try.prog 3 #[.int .i64 way, clV a s t ba bl bc, clV b s' t' ba' bl' bc'] w (SayPost w (.bool true)) := by
  obtain ⟨n, e, K1, K2⟩ := ariths way a b s s' t t' ba ba' bl bc bl' bc' ha hb
  clear ha hb
  unfold clV anV at *
  have HX : Hid (Ext [] w ((w.alloc (.cells #[.int .u64 a, .string s, .int .i64 t, .slice ba bl bc] 25)).alloc (.cells #[.int .u64 b, .string s', .int .i64 t', .slice ba' bl' bc'] 25))) := (Ext.alloc _ _ _).trans (Ext.alloc _ _ _)
  have KA := awake_any ((w.alloc (.cells #[.int .u64 a, .string s, .int .i64 t, .slice ba bl bc] 25)).alloc (.cells #[.int .u64 b, .string s', .int .i64 t', .slice ba' bl' bc'] 25))
  have hb1 : ∀ w : World, ((w.alloc (.cells #[.int .u64 a, .string s, .int .i64 t, .slice ba bl bc] 25)).alloc (.cells #[.int .u64 b, .string s', .int .i64 t', .slice ba' bl' bc'] 25)).heap[w.heap.size + 1]? = some (.cells #[.int .u64 b, .string s', .int .i64 t', .slice ba' bl' bc'] 25) := fun w => by
    have := heap_alloc_new (w.alloc (.cells #[.int .u64 a, .string s, .int .i64 t, .slice ba bl bc] 25)) (.cells #[.int .u64 b, .string s', .int .i64 t', .slice ba' bl' bc'] 25)
    simpa using this
  have HQ : Hid (∀ u, Ext [] ((w.alloc (.cells #[.int .u64 a, .string s, .int .i64 t, .slice ba bl bc] 25)).alloc (.cells #[.int .u64 b, .string s', .int .i64 t', .slice ba' bl' bc'] 25)) u → u.cell? ⟨w.heap.size, 0, none⟩ = some (.int .u64 a) ∧ u.cell? ⟨w.heap.size, 1, none⟩ = some (.string s) ∧ u.cell? ⟨w.heap.size, 2, none⟩ = some (.int .i64 t) ∧ u.cell? ⟨w.heap.size, 3, none⟩ = some (.slice ba bl bc) ∧ u.cell? ⟨w.heap.size + 1, 0, none⟩ = some (.int .u64 b) ∧ u.cell? ⟨w.heap.size + 1, 1, none⟩ = some (.string s') ∧ u.cell? ⟨w.heap.size + 1, 2, none⟩ = some (.int .i64 t') ∧ u.cell? ⟨w.heap.size + 1, 3, none⟩ = some (.slice ba' bl' bc')) := fun u hu =>
    ⟨hu.cell (by rw [cell_of_row _ _ _ _ _ _ ((heap_alloc_old _ _ (by simp)).trans (heap_alloc_new _ _))]; rfl) (by simp), hu.cell (by rw [cell_of_row _ _ _ _ _ _ ((heap_alloc_old _ _ (by simp)).trans (heap_alloc_new _ _))]; rfl) (by simp), hu.cell (by rw [cell_of_row _ _ _ _ _ _ ((heap_alloc_old _ _ (by simp)).trans (heap_alloc_new _ _))]; rfl) (by simp), hu.cell (by rw [cell_of_row _ _ _ _ _ _ ((heap_alloc_old _ _ (by simp)).trans (heap_alloc_new _ _))]; rfl) (by simp),
      hu.cell (by rw [cell_of_row _ _ _ _ _ _ (hb1 w)]; rfl) (by simp), hu.cell (by rw [cell_of_row _ _ _ _ _ _ (hb1 w)]; rfl) (by simp), hu.cell (by rw [cell_of_row _ _ _ _ _ _ (hb1 w)]; rfl) (by simp), hu.cell (by rw [cell_of_row _ _ _ _ _ _ (hb1 w)]; rfl) (by simp)⟩
  clear hb1
  go_enter Try.func3, Try.ntmps3
  go_upto_region 3 with (go_at_call 7; refine KA.mono ?_; clear KA; rintro e w1 ⟨rfl, hE⟩)
  obtain ⟨x0, x1, x2, x3, y0, y1, y2, y3⟩ := HQ.out w1 hE
  have HE1 := hid hE
  have HX1 := hid (HX.out.trans hE)
  clear hE HX
  go_upto_region 4 with (go_at_call 8; refine (K1 _).mono ?_; clear K1; rintro e w2 ⟨rfl, hE⟩)
  clear x0 x1 x2 x3 y0 y1 y2 y3
  have O1 := fun u (hu : Ext [] (w2.alloc (.cells #[.int .u64 n, .string ⟨#[]⟩, .int .i64 0, .slice none 0 0] 25)) u) => (On.mk (by rw [cell_of_row _ _ _ _ _ _ (heap_alloc_new _ _)]; rfl) (by rw [cell_of_row _ _ _ _ _ _ (heap_alloc_new _ _)]; rfl) (by rw [cell_of_row _ _ _ _ _ _ (heap_alloc_new _ _)]; rfl) (by rw [cell_of_row _ _ _ _ _ _ (heap_alloc_new _ _)]; rfl) : On (w2.alloc (.cells #[.int .u64 n, .string ⟨#[]⟩, .int .i64 0, .slice none 0 0] 25)) w2.heap.size n).keep hu
  replace O1 := hid O1
  have HE2 := hid (HE1.out.trans (hE.trans (Ext.alloc [] w2 (.cells #[.int .u64 n, .string ⟨#[]⟩, .int .i64 0, .slice none 0 0] 25))))
  have HX2 := hid (HX1.out.trans (hE.trans (Ext.alloc [] w2 (.cells #[.int .u64 n, .string ⟨#[]⟩, .int .i64 0, .slice none 0 0] 25))))
  clear hE HX1 HE1
  generalize w2.alloc (.cells #[.int .u64 n, .string ⟨#[]⟩, .int .i64 0, .slice none 0 0] 25) = w3 at *
  generalize w2.heap.size = g1 at *
  obtain ⟨x0, x1, x2, x3, y0, y1, y2, y3⟩ := HQ.out w3 HE2.out
  clear HQ HE2
  go_upto_region 5 with (go_at_call 9; refine (K2 _).mono ?_; clear K2; rintro e w4 ⟨rfl, hE⟩)
  clear x0 x1 x2 x3 y0 y1 y2 y3
  have O2 := (On.mk (by rw [cell_of_row _ _ _ _ _ _ (heap_alloc_new _ _)]; rfl) (by rw [cell_of_row _ _ _ _ _ _ (heap_alloc_new _ _)]; rfl) (by rw [cell_of_row _ _ _ _ _ _ (heap_alloc_new _ _)]; rfl) (by rw [cell_of_row _ _ _ _ _ _ (heap_alloc_new _ _)]; rfl) : On (w4.alloc (.cells #[.int .u64 n, .string ⟨#[]⟩, .int .i64 0, .slice none 0 0] 25)) w4.heap.size n)
  have O3 := O1.out _ (hE.trans (Ext.alloc [] w4 (.cells #[.int .u64 n, .string ⟨#[]⟩, .int .i64 0, .slice none 0 0] 25)))
  have HX3 := hid (HX2.out.trans (hE.trans (Ext.alloc [] w4 (.cells #[.int .u64 n, .string ⟨#[]⟩, .int .i64 0, .slice none 0 0] 25))))
  clear hE HX2 O1
  generalize w4.alloc (.cells #[.int .u64 n, .string ⟨#[]⟩, .int .i64 0, .slice none 0 0] 25) = w5 at *
  generalize w4.heap.size = g2 at *
  obtain ⟨x0, x1, x2, x3⟩ := O3
  obtain ⟨y0, y1, y2, y3⟩ := O2
  have x3l := block_lt_of_cell x0
  have y3l := block_lt_of_cell y0
  have he : (e == e) = true := by simp
  have hz1 : ((w5.alloc (.cells #[.int .u64 n, .string ⟨#[]⟩, .int .i64 0, .slice none 0 0] 25)).alloc (.cells #[.int .u64 n, .string ⟨#[]⟩, .int .i64 0, .slice none 0 0] 25)).heap[w5.heap.size + 1]? = some (.cells #[.int .u64 n, .string ⟨#[]⟩, .int .i64 0, .slice none 0 0] 25) := by
    have := heap_alloc_new (w5.alloc (.cells #[.int .u64 n, .string ⟨#[]⟩, .int .i64 0, .slice none 0 0] 25)) (.cells #[.int .u64 n, .string ⟨#[]⟩, .int .i64 0, .slice none 0 0] 25)
    simpa using this
  have hz0 : ((w5.alloc (.cells #[.int .u64 n, .string ⟨#[]⟩, .int .i64 0, .slice none 0 0] 25)).alloc (.cells #[.int .u64 n, .string ⟨#[]⟩, .int .i64 0, .slice none 0 0] 25)).heap[w5.heap.size]? = some (.cells #[.int .u64 n, .string ⟨#[]⟩, .int .i64 0, .slice none 0 0] 25) := (heap_alloc_old _ _ (by simp)).trans (heap_alloc_new _ _)
  have KS := rsame_one w5.heap.size (w5.heap.size + 1) n 1 1 ((w5.alloc (.cells #[.int .u64 n, .string ⟨#[]⟩, .int .i64 0, .slice none 0 0] 25)).alloc (.cells #[.int .u64 n, .string ⟨#[]⟩, .int .i64 0, .slice none 0 0] 25)) ⟨by rw [cell_of_row _ _ _ _ _ _ hz0]; rfl, by rw [cell_of_row _ _ _ _ _ _ hz0]; rfl, by rw [cell_of_row _ _ _ _ _ _ hz0]; rfl, by rw [cell_of_row _ _ _ _ _ _ hz0]; rfl⟩ ⟨by rw [cell_of_row _ _ _ _ _ _ hz1]; rfl, by rw [cell_of_row _ _ _ _ _ _ hz1]; rfl, by rw [cell_of_row _ _ _ _ _ _ hz1]; rfl, by rw [cell_of_row _ _ _ _ _ _ hz1]; rfl⟩
  have HX4 : Hid (Ext [] w ((w5.alloc (.cells #[.int .u64 n, .string ⟨#[]⟩, .int .i64 0, .slice none 0 0] 25)).alloc (.cells #[.int .u64 n, .string ⟨#[]⟩, .int .i64 0, .slice none 0 0] 25))) := HX3.out.trans ((Ext.alloc _ _ _).trans (Ext.alloc _ _ _))
  clear hz0 hz1 HX3
  go_wp2_with (first | (go_at_call 10; refine KS.mono ?_; clear KS; rintro e w6 ⟨rfl, hE⟩; replace HX4 := hid (HX4.out.trans hE); clear hE) | fail "no arm")
  go_ret
  exact ⟨rfl, HX4.out⟩
end Go.Proofs.Ytdedehfeekpioaa
