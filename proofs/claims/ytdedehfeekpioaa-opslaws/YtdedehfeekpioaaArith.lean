/-
  The program's Arith; no statement is proved here.
-/
import Derived.Test.YtdedehfeekpioaaFloats
namespace Go.Proofs.Ytdedehfeekpioaa
open Go.RowKit

/-- A cell by value. -/
def clV (n : Int) (s : ByteArray) (t : Int) (ba : Option Addr) (bl bc : Nat) : Value := .agg #[.int .u64 n, .string s, .int .i64 t, .slice ba bl bc]
/-- A cell with a number alone, beside an error's number. -/
def anV (n e : Int) : Value := .tuple #[.agg #[.int .u64 n, .string ⟨#[]⟩, .int .i64 0, .slice none 0 0], .int .i64 e]

theorem w64u {a : Int} (h : U a) : wrap64 a = sg a := by rw [w64, um_id h]

set_option maxHeartbeats 4000000 in
theorem arith_int (way : Nat) (a b : Int) (s s' : ByteArray) (t t' : Int) (ba ba' : Option Addr) (bl bc bl' bc' : Nat) (w : World) (h1 : 1 ≤ way) (h2 : way ≤ 11) (ha : U a) (hb : U b) (hz : (way = 4 ∨ way = 5) → b ≠ 0) :
    Calls Try.prog 8 #[.int .i64 way, clV a s t ba bl bc, clV b s' t' ba' bl' bc'] w (SayPost w (anV (ai way a b) 0)) := by
  have K : ∀ u, Calls Try.prog 18 #[.int .i64 way, .int .i64 (sg a), .int .i64 (sg b)] u (fun e w' => e = .returned (.int .u64 (ai way a b)) ∧ w' = u) := fun u => ofInts_any way a b u h1 h2 ha hb hz
  have ea := w64u ha
  have eb := w64u hb
  generalize ai way a b = r at *
  have hb0 : (way = 4 ∨ way = 5) → (b == 0) = false := fun h => by simpa using hz h
  clear hz ha hb
  unfold clV
  obtain rfl | rfl | rfl | rfl | rfl | rfl | rfl | rfl | rfl | rfl | rfl : way = 1 ∨ way = 2 ∨ way = 3 ∨ way = 4 ∨ way = 5 ∨ way = 6 ∨ way = 7 ∨ way = 8 ∨ way = 9 ∨ way = 10 ∨ way = 11 := by omega
  · clear hb0
    clear h1 h2
    go_enter Try.func8, Try.ntmps8
    go_wp2_with (go_at_call 18; refine met (K _) ?_)
    refine bodyPost_ret (v := anV r 0) (by simp [results, Try.results8, go_sem, anV]) rfl ⟨rfl, ((Ext.alloc _ _ _).trans (Ext.alloc _ _ _)).trans (Ext.alloc _ _ _)⟩
  · clear hb0
    clear h1 h2
    go_enter Try.func8, Try.ntmps8
    go_wp2_with (go_at_call 18; refine met (K _) ?_)
    refine bodyPost_ret (v := anV r 0) (by simp [results, Try.results8, go_sem, anV]) rfl ⟨rfl, ((Ext.alloc _ _ _).trans (Ext.alloc _ _ _)).trans (Ext.alloc _ _ _)⟩
  · clear hb0
    clear h1 h2
    go_enter Try.func8, Try.ntmps8
    go_wp2_with (go_at_call 18; refine met (K _) ?_)
    refine bodyPost_ret (v := anV r 0) (by simp [results, Try.results8, go_sem, anV]) rfl ⟨rfl, ((Ext.alloc _ _ _).trans (Ext.alloc _ _ _)).trans (Ext.alloc _ _ _)⟩
  · replace hb0 := hb0 (by simp)
    clear h1 h2
    go_enter Try.func8, Try.ntmps8
    go_wp2_with (go_at_call 18; refine met (K _) ?_)
    refine bodyPost_ret (v := anV r 0) (by simp [results, Try.results8, go_sem, anV]) rfl ⟨rfl, ((Ext.alloc _ _ _).trans (Ext.alloc _ _ _)).trans (Ext.alloc _ _ _)⟩
  · replace hb0 := hb0 (by simp)
    clear h1 h2
    go_enter Try.func8, Try.ntmps8
    go_wp2_with (go_at_call 18; refine met (K _) ?_)
    refine bodyPost_ret (v := anV r 0) (by simp [results, Try.results8, go_sem, anV]) rfl ⟨rfl, ((Ext.alloc _ _ _).trans (Ext.alloc _ _ _)).trans (Ext.alloc _ _ _)⟩
  · clear hb0
    clear h1 h2
    go_enter Try.func8, Try.ntmps8
    go_wp2_with (go_at_call 18; refine met (K _) ?_)
    refine bodyPost_ret (v := anV r 0) (by simp [results, Try.results8, go_sem, anV]) rfl ⟨rfl, ((Ext.alloc _ _ _).trans (Ext.alloc _ _ _)).trans (Ext.alloc _ _ _)⟩
  · clear hb0
    clear h1 h2
    go_enter Try.func8, Try.ntmps8
    go_wp2_with (go_at_call 18; refine met (K _) ?_)
    refine bodyPost_ret (v := anV r 0) (by simp [results, Try.results8, go_sem, anV]) rfl ⟨rfl, ((Ext.alloc _ _ _).trans (Ext.alloc _ _ _)).trans (Ext.alloc _ _ _)⟩
  · clear hb0
    clear h1 h2
    go_enter Try.func8, Try.ntmps8
    go_wp2_with (go_at_call 18; refine met (K _) ?_)
    refine bodyPost_ret (v := anV r 0) (by simp [results, Try.results8, go_sem, anV]) rfl ⟨rfl, ((Ext.alloc _ _ _).trans (Ext.alloc _ _ _)).trans (Ext.alloc _ _ _)⟩
  · clear hb0
    clear h1 h2
    go_enter Try.func8, Try.ntmps8
    go_wp2_with (go_at_call 18; refine met (K _) ?_)
    refine bodyPost_ret (v := anV r 0) (by simp [results, Try.results8, go_sem, anV]) rfl ⟨rfl, ((Ext.alloc _ _ _).trans (Ext.alloc _ _ _)).trans (Ext.alloc _ _ _)⟩
  · clear hb0
    clear h1 h2
    go_enter Try.func8, Try.ntmps8
    go_wp2_with (go_at_call 18; refine met (K _) ?_)
    refine bodyPost_ret (v := anV r 0) (by simp [results, Try.results8, go_sem, anV]) rfl ⟨rfl, ((Ext.alloc _ _ _).trans (Ext.alloc _ _ _)).trans (Ext.alloc _ _ _)⟩
  · clear hb0
    clear h1 h2
    go_enter Try.func8, Try.ntmps8
    go_wp2_with (go_at_call 18; refine met (K _) ?_)
    refine bodyPost_ret (v := anV r 0) (by simp [results, Try.results8, go_sem, anV]) rfl ⟨rfl, ((Ext.alloc _ _ _).trans (Ext.alloc _ _ _)).trans (Ext.alloc _ _ _)⟩
end Go.Proofs.Ytdedehfeekpioaa
