/-
  The reference's Arith of sums, products and bits; no statement is proved here.
-/
import Derived.Test.YtdedehfeekpioaaRMath
import Derived.Test.YtdedehfeekpioaaArithB
namespace Go.Proofs.Ytdedehfeekpioaa
open Go.RowKit

set_option maxRecDepth 100000 in
set_option maxHeartbeats 4000000 in
theorem rarith_1 (a b : Int) (s s' : ByteArray) (t t' : Int) (ba ba' : Option Addr) (bl bc bl' bc' : Nat) (w : World) (ha : U a) (hb : U b) :
    Calls Try.prog 9 #[.int .i64 1, clV a s t ba bl bc, clV b s' t' ba' bl' bc'] w (SayPost w (anV (ai 1 a b) 0)) := by
  have ea := w64u ha
  have eb := w64u hb
  have f1 := frombits_run a
  have f2 := frombits_run b
  unfold clV
  have e : IntKind.u64.wrap (a + b) = ai 1 a b := by rw [wrapU]; rfl
  rw [← e]
  clear e
  generalize sg a = x at *
  generalize sg b = y at *
  clear ha hb
  go_enter Try.func9, Try.ntmps9
  go_wp2_with fail
  refine bodyPost_ret (v := anV _ 0) (by simp [results, Try.results9, go_sem, anV]) rfl ⟨rfl, ((Ext.alloc _ _ _).trans (Ext.alloc _ _ _)).trans (Ext.alloc _ _ _)⟩

set_option maxRecDepth 100000 in
set_option maxHeartbeats 4000000 in
theorem rarith_2 (a b : Int) (s s' : ByteArray) (t t' : Int) (ba ba' : Option Addr) (bl bc bl' bc' : Nat) (w : World) (ha : U a) (hb : U b) :
    Calls Try.prog 9 #[.int .i64 2, clV a s t ba bl bc, clV b s' t' ba' bl' bc'] w (SayPost w (anV (ai 2 a b) 0)) := by
  have ea := w64u ha
  have eb := w64u hb
  have f1 := frombits_run a
  have f2 := frombits_run b
  unfold clV
  have e : IntKind.u64.wrap (a - b) = ai 2 a b := by rw [wrapU]; rfl
  rw [← e]
  clear e
  generalize sg a = x at *
  generalize sg b = y at *
  clear ha hb
  go_enter Try.func9, Try.ntmps9
  go_wp2_with fail
  refine bodyPost_ret (v := anV _ 0) (by simp [results, Try.results9, go_sem, anV]) rfl ⟨rfl, ((Ext.alloc _ _ _).trans (Ext.alloc _ _ _)).trans (Ext.alloc _ _ _)⟩

set_option maxRecDepth 100000 in
set_option maxHeartbeats 4000000 in
theorem rarith_3 (a b : Int) (s s' : ByteArray) (t t' : Int) (ba ba' : Option Addr) (bl bc bl' bc' : Nat) (w : World) (ha : U a) (hb : U b) :
    Calls Try.prog 9 #[.int .i64 3, clV a s t ba bl bc, clV b s' t' ba' bl' bc'] w (SayPost w (anV (ai 3 a b) 0)) := by
  have ea := w64u ha
  have eb := w64u hb
  have f1 := frombits_run a
  have f2 := frombits_run b
  unfold clV
  have e : IntKind.u64.wrap (a * b) = ai 3 a b := by rw [wrapU]; rfl
  rw [← e]
  clear e
  generalize sg a = x at *
  generalize sg b = y at *
  clear ha hb
  go_enter Try.func9, Try.ntmps9
  go_wp2_with fail
  refine bodyPost_ret (v := anV _ 0) (by simp [results, Try.results9, go_sem, anV]) rfl ⟨rfl, ((Ext.alloc _ _ _).trans (Ext.alloc _ _ _)).trans (Ext.alloc _ _ _)⟩

set_option maxRecDepth 100000 in
set_option maxHeartbeats 4000000 in
theorem rarith_6 (a b : Int) (s s' : ByteArray) (t t' : Int) (ba ba' : Option Addr) (bl bc bl' bc' : Nat) (w : World) (ha : U a) (hb : U b) :
    Calls Try.prog 9 #[.int .i64 6, clV a s t ba bl bc, clV b s' t' ba' bl' bc'] w (SayPost w (anV (ai 6 a b) 0)) := by
  have ea := w64u ha
  have eb := w64u hb
  have f1 := frombits_run a
  have f2 := frombits_run b
  unfold clV
  have e : bits .and .u64 a b = ai 6 a b := bits_u .and _ _ _ rfl (by simp)
  rw [← e]
  clear e
  generalize sg a = x at *
  generalize sg b = y at *
  clear ha hb
  go_enter Try.func9, Try.ntmps9
  go_wp2_with fail
  refine bodyPost_ret (v := anV _ 0) (by simp [results, Try.results9, go_sem, anV]) rfl ⟨rfl, ((Ext.alloc _ _ _).trans (Ext.alloc _ _ _)).trans (Ext.alloc _ _ _)⟩

set_option maxRecDepth 100000 in
set_option maxHeartbeats 4000000 in
theorem rarith_7 (a b : Int) (s s' : ByteArray) (t t' : Int) (ba ba' : Option Addr) (bl bc bl' bc' : Nat) (w : World) (ha : U a) (hb : U b) :
    Calls Try.prog 9 #[.int .i64 7, clV a s t ba bl bc, clV b s' t' ba' bl' bc'] w (SayPost w (anV (ai 7 a b) 0)) := by
  have ea := w64u ha
  have eb := w64u hb
  have f1 := frombits_run a
  have f2 := frombits_run b
  unfold clV
  have e : bits .or .u64 a b = ai 7 a b := bits_u .or _ _ _ rfl (by simp)
  rw [← e]
  clear e
  generalize sg a = x at *
  generalize sg b = y at *
  clear ha hb
  go_enter Try.func9, Try.ntmps9
  go_wp2_with fail
  refine bodyPost_ret (v := anV _ 0) (by simp [results, Try.results9, go_sem, anV]) rfl ⟨rfl, ((Ext.alloc _ _ _).trans (Ext.alloc _ _ _)).trans (Ext.alloc _ _ _)⟩

set_option maxRecDepth 100000 in
set_option maxHeartbeats 4000000 in
theorem rarith_8 (a b : Int) (s s' : ByteArray) (t t' : Int) (ba ba' : Option Addr) (bl bc bl' bc' : Nat) (w : World) (ha : U a) (hb : U b) :
    Calls Try.prog 9 #[.int .i64 8, clV a s t ba bl bc, clV b s' t' ba' bl' bc'] w (SayPost w (anV (ai 8 a b) 0)) := by
  have ea := w64u ha
  have eb := w64u hb
  have f1 := frombits_run a
  have f2 := frombits_run b
  unfold clV
  have e : bits .xor .u64 a b = ai 8 a b := bits_u .xor _ _ _ rfl (by simp)
  rw [← e]
  clear e
  generalize sg a = x at *
  generalize sg b = y at *
  clear ha hb
  go_enter Try.func9, Try.ntmps9
  go_wp2_with fail
  refine bodyPost_ret (v := anV _ 0) (by simp [results, Try.results9, go_sem, anV]) rfl ⟨rfl, ((Ext.alloc _ _ _).trans (Ext.alloc _ _ _)).trans (Ext.alloc _ _ _)⟩

end Go.Proofs.Ytdedehfeekpioaa
