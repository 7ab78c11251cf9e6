/-
  The program's Arith of floats, texts and truths, and its errors; no statement is proved here.
-/
import Derived.Test.YtdedehfeekpioaaArith
import Derived.Deep.Cut
namespace Go.Proofs.Ytdedehfeekpioaa
open Go.RowKit

theorem ext_res {w b : World} {k : Nat} (h : Ext [] w b) (hk : w.heap.size ≤ k) (v0 v1 v2 v3 : Value) : Ext [] w ((((b.setCell ⟨k, 0, none⟩ v0).setCell ⟨k, 1, none⟩ v1).setCell ⟨k, 2, none⟩ v2).setCell ⟨k, 3, none⟩ v3) :=
  Ext.on h ((((Ext.setCell [k] _ _ _ (by simp)).trans (Ext.setCell [k] _ _ _ (by simp))).trans (Ext.setCell [k] _ _ _ (by simp))).trans (Ext.setCell [k] _ _ _ (by simp))) (by simp; omega)

set_option maxHeartbeats 4000000 in
theorem arith_zero (way : Nat) (a : Int) (s s' : ByteArray) (t t' : Int) (ba ba' : Option Addr) (bl bc bl' bc' : Nat) (w : World) (hw : way = 4 ∨ way = 5) :
    Calls Try.prog 8 #[.int .i64 way, clV a s t ba bl bc, clV 0 s' t' ba' bl' bc'] w (SayPost w (anV 0 9)) := by
  unfold clV
  rcases hw with rfl | rfl
  · go_enter Try.func8, Try.ntmps8
    go_wp2_with fail
    refine bodyPost_ret (v := anV 0 9) (by simp [results, Try.results8, go_sem, anV]) rfl ⟨rfl, ((Ext.alloc _ _ _).trans (Ext.alloc _ _ _)).trans (Ext.alloc _ _ _)⟩
  · go_enter Try.func8, Try.ntmps8
    go_wp2_with fail
    refine bodyPost_ret (v := anV 0 9) (by simp [results, Try.results8, go_sem, anV]) rfl ⟨rfl, ((Ext.alloc _ _ _).trans (Ext.alloc _ _ _)).trans (Ext.alloc _ _ _)⟩

set_option maxHeartbeats 4000000 in
theorem arith_flt (way : Nat) (a b : Int) (s s' : ByteArray) (t t' : Int) (ba ba' : Option Addr) (bl bc bl' bc' : Nat) (w : World) (h1 : 12 ≤ way) (h2 : way ≤ 16) :
    Calls Try.prog 8 #[.int .i64 way, clV a s t ba bl bc, clV b s' t' ba' bl' bc'] w (SayPost w (anV (fw way a.toNat b.toNat) 0)) := by
  have K : ∀ u, Calls Try.prog 19 #[.int .i64 way, .float .f64 a.toNat, .float .f64 b.toNat] u (fun e w' => e = .returned (.int .u64 (fw way a.toNat b.toNat)) ∧ ∃ m, w' = u.drewN m) := fun u => ofFloats_any way a.toNat b.toNat u h1 h2
  generalize fw way a.toNat b.toNat = r at *
  have f1 := frombits_run a
  have f2 := frombits_run b
  unfold clV
  obtain rfl | rfl | rfl | rfl | rfl : way = 12 ∨ way = 13 ∨ way = 14 ∨ way = 15 ∨ way = 16 := by omega
  · clear h1 h2
    go_enter Try.func8, Try.ntmps8
    go_wp2_with fail
    go_quiet (first | (go_at_call 19; refine Calls.quiet_of (K _)))
    go_wp2_with fail
    refine bodyPost_ret (v := anV r 0) (by simp [results, Try.results8, go_sem, anV]) rfl ⟨rfl, ?_⟩
    exact ext_res ((((Ext.alloc _ _ _).trans (Ext.alloc _ _ _)).trans (Ext.alloc _ _ _)).trans (Ext.drewN _ _ _)) (by omega) _ _ _ _
  · clear h1 h2
    go_enter Try.func8, Try.ntmps8
    go_wp2_with fail
    go_quiet (first | (go_at_call 19; refine Calls.quiet_of (K _)))
    go_wp2_with fail
    refine bodyPost_ret (v := anV r 0) (by simp [results, Try.results8, go_sem, anV]) rfl ⟨rfl, ?_⟩
    exact ext_res ((((Ext.alloc _ _ _).trans (Ext.alloc _ _ _)).trans (Ext.alloc _ _ _)).trans (Ext.drewN _ _ _)) (by omega) _ _ _ _
  · clear h1 h2
    go_enter Try.func8, Try.ntmps8
    go_wp2_with fail
    go_quiet (first | (go_at_call 19; refine Calls.quiet_of (K _)))
    go_wp2_with fail
    refine bodyPost_ret (v := anV r 0) (by simp [results, Try.results8, go_sem, anV]) rfl ⟨rfl, ?_⟩
    exact ext_res ((((Ext.alloc _ _ _).trans (Ext.alloc _ _ _)).trans (Ext.alloc _ _ _)).trans (Ext.drewN _ _ _)) (by omega) _ _ _ _
  · clear h1 h2
    go_enter Try.func8, Try.ntmps8
    go_wp2_with fail
    go_quiet (first | (go_at_call 19; refine Calls.quiet_of (K _)))
    go_wp2_with fail
    refine bodyPost_ret (v := anV r 0) (by simp [results, Try.results8, go_sem, anV]) rfl ⟨rfl, ?_⟩
    exact ext_res ((((Ext.alloc _ _ _).trans (Ext.alloc _ _ _)).trans (Ext.alloc _ _ _)).trans (Ext.drewN _ _ _)) (by omega) _ _ _ _
  · clear h1 h2
    go_enter Try.func8, Try.ntmps8
    go_wp2_with fail
    go_quiet (first | (go_at_call 19; refine Calls.quiet_of (K _)))
    go_wp2_with fail
    refine bodyPost_ret (v := anV r 0) (by simp [results, Try.results8, go_sem, anV]) rfl ⟨rfl, ?_⟩
    exact ext_res ((((Ext.alloc _ _ _).trans (Ext.alloc _ _ _)).trans (Ext.alloc _ _ _)).trans (Ext.drewN _ _ _)) (by omega) _ _ _ _

theorem arith_str (a b : Int) (s s' : ByteArray) (t t' : Int) (ba ba' : Option Addr) (bl bc bl' bc' : Nat) (w : World) :
    Calls Try.prog 8 #[.int .i64 17, clV a s t ba bl bc, clV b s' t' ba' bl' bc'] w (SayPost w (anV (b2u (Op.bytesLess s.toList s'.toList)) 0)) := by
  unfold clV
  go_enter Try.func8, Try.ntmps8
  go_wp2_with (go_at_call 21; refine met (truth_any _ _) ?_)
  refine bodyPost_ret (v := anV _ 0) (by simp [results, Try.results8, go_sem, anV]) rfl ⟨rfl, ((Ext.alloc _ _ _).trans (Ext.alloc _ _ _)).trans (Ext.alloc _ _ _)⟩

theorem arith_and (a b : Int) (s s' : ByteArray) (t t' : Int) (ba ba' : Option Addr) (bl bc bl' bc' : Nat) (w : World) :
    Calls Try.prog 8 #[.int .i64 18, clV a s t ba bl bc, clV b s' t' ba' bl' bc'] w (SayPost w (anV (b2u (a != 0 && b != 0)) 0)) := by
  unfold clV
  by_cases ha : a = 0
  · subst ha
    go_enter Try.func8, Try.ntmps8
    go_wp2_with (go_at_call 21; refine met (truth_any _ _) ?_)
    refine bodyPost_ret (v := anV _ 0) (by simp [results, Try.results8, go_sem, anV]) rfl ⟨rfl, ((Ext.alloc _ _ _).trans (Ext.alloc _ _ _)).trans (Ext.alloc _ _ _)⟩
  · have h1 : (a != 0) = true := by simpa using ha
    rw [h1, Bool.true_and]
    go_enter Try.func8, Try.ntmps8
    go_wp2_with (go_at_call 21; refine met (truth_any _ _) ?_)
    refine bodyPost_ret (v := anV _ 0) (by simp [results, Try.results8, go_sem, anV]) rfl ⟨rfl, ((Ext.alloc _ _ _).trans (Ext.alloc _ _ _)).trans (Ext.alloc _ _ _)⟩

theorem arith_or (a b : Int) (s s' : ByteArray) (t t' : Int) (ba ba' : Option Addr) (bl bc bl' bc' : Nat) (w : World) :
    Calls Try.prog 8 #[.int .i64 19, clV a s t ba bl bc, clV b s' t' ba' bl' bc'] w (SayPost w (anV (b2u (a != 0 || b != 0)) 0)) := by
  unfold clV
  by_cases ha : a = 0
  · subst ha
    go_enter Try.func8, Try.ntmps8
    go_wp2_with (go_at_call 21; refine met (truth_any _ _) ?_)
    refine bodyPost_ret (v := anV _ 0) (by simp [results, Try.results8, go_sem, anV]) rfl ⟨rfl, ((Ext.alloc _ _ _).trans (Ext.alloc _ _ _)).trans (Ext.alloc _ _ _)⟩
  · have h1 : (a != 0) = true := by simpa using ha
    rw [h1, Bool.true_or]
    go_enter Try.func8, Try.ntmps8
    go_wp2_with (go_at_call 21; refine met (truth_any _ _) ?_)
    refine bodyPost_ret (v := anV _ 0) (by simp [results, Try.results8, go_sem, anV]) rfl ⟨rfl, ((Ext.alloc _ _ _).trans (Ext.alloc _ _ _)).trans (Ext.alloc _ _ _)⟩

theorem arith_bad (way : Int) (a b : Int) (s s' : ByteArray) (t t' : Int) (ba ba' : Option Addr) (bl bc bl' bc' : Nat) (w : World) (h : way < 1 ∨ 19 < way) :
    Calls Try.prog 8 #[.int .i64 way, clV a s t ba bl bc, clV b s' t' ba' bl' bc'] w (SayPost w (anV 0 2)) := by
  unfold clV
  have h1 : (way == 1) = false := by simp; omega
  have h2 : (way == 2) = false := by simp; omega
  have h3 : (way == 3) = false := by simp; omega
  have h4 : (way == 4) = false := by simp; omega
  have h5 : (way == 5) = false := by simp; omega
  have h6 : (way == 6) = false := by simp; omega
  have h7 : (way == 7) = false := by simp; omega
  have h8 : (way == 8) = false := by simp; omega
  have h9 : (way == 9) = false := by simp; omega
  have h10 : (way == 10) = false := by simp; omega
  have h11 : (way == 11) = false := by simp; omega
  have h12 : (way == 12) = false := by simp; omega
  have h13 : (way == 13) = false := by simp; omega
  have h14 : (way == 14) = false := by simp; omega
  have h15 : (way == 15) = false := by simp; omega
  have h16 : (way == 16) = false := by simp; omega
  have h17 : (way == 17) = false := by simp; omega
  have h18 : (way == 18) = false := by simp; omega
  have h19 : (way == 19) = false := by simp; omega
  clear h
  go_enter Try.func8, Try.ntmps8
  go_wp2_with fail
  refine bodyPost_ret (v := anV 0 2) (by simp [results, Try.results8, go_sem, anV]) rfl ⟨rfl, ((Ext.alloc _ _ _).trans (Ext.alloc _ _ _)).trans (Ext.alloc _ _ _)⟩
end Go.Proofs.Ytdedehfeekpioaa
