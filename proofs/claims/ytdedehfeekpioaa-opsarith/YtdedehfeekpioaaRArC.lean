/-
  The reference's Arith of shifts, orders, texts and truths; no statement is proved here.
-/
import Derived.Test.YtdedehfeekpioaaRMath
import Derived.Test.YtdedehfeekpioaaArithB
namespace Go.Proofs.Ytdedehfeekpioaa
open Go.RowKit

set_option maxRecDepth 100000 in
set_option maxHeartbeats 4000000 in
theorem rarith_9 (a b : Int) (s s' : ByteArray) (t t' : Int) (ba ba' : Option Addr) (bl bc bl' bc' : Nat) (w : World) (ha : U a) (hb : U b) :
    Calls Try.prog 9 #[.int .i64 9, clV a s t ba bl bc, clV b s' t' ba' bl' bc'] w (SayPost w (anV (ai 9 a b) 0)) := by
  have ea := w64u ha
  have eb := w64u hb
  have f1 := frombits_run a
  have f2 := frombits_run b
  unfold clV
  have e : um (a * 2 ^ (b % 64).toNat) = ai 9 a b := rfl
  rw [← e]
  clear e
  have hs := fun u => shl_u a b u hb
  generalize um (a * 2 ^ (b % 64).toNat) = r at *
  generalize sg a = x at *
  generalize sg b = y at *
  clear ha hb
  go_enter Try.func9, Try.ntmps9
  go_wp2_with fail
  refine bodyPost_ret (v := anV _ 0) (by simp [results, Try.results9, go_sem, anV]) rfl ⟨rfl, ((Ext.alloc _ _ _).trans (Ext.alloc _ _ _)).trans (Ext.alloc _ _ _)⟩

set_option maxRecDepth 100000 in
set_option maxHeartbeats 4000000 in
theorem rarith_10 (a b : Int) (s s' : ByteArray) (t t' : Int) (ba ba' : Option Addr) (bl bc bl' bc' : Nat) (w : World) (ha : U a) (hb : U b) :
    Calls Try.prog 9 #[.int .i64 10, clV a s t ba bl bc, clV b s' t' ba' bl' bc'] w (SayPost w (anV (ai 10 a b) 0)) := by
  have ea := w64u ha
  have eb := w64u hb
  have f1 := frombits_run a
  have f2 := frombits_run b
  unfold clV
  have e : IntKind.u64.wrap ((sg a).fdiv (2 ^ (b % 64).toNat)) = ai 10 a b := by rw [wrapU]; rfl
  rw [← e]
  clear e
  have hs := fun u => shr_u (sg a) b u hb
  generalize (sg a).fdiv (2 ^ (b % 64).toNat) = r at *
  generalize sg a = x at *
  generalize sg b = y at *
  clear ha hb
  go_enter Try.func9, Try.ntmps9
  go_wp2_with fail
  refine bodyPost_ret (v := anV _ 0) (by simp [results, Try.results9, go_sem, anV]) rfl ⟨rfl, ((Ext.alloc _ _ _).trans (Ext.alloc _ _ _)).trans (Ext.alloc _ _ _)⟩

set_option maxRecDepth 100000 in
set_option maxHeartbeats 4000000 in
theorem rarith_11 (a b : Int) (s s' : ByteArray) (t t' : Int) (ba ba' : Option Addr) (bl bc bl' bc' : Nat) (w : World) (ha : U a) (hb : U b) :
    Calls Try.prog 9 #[.int .i64 11, clV a s t ba bl bc, clV b s' t' ba' bl' bc'] w (SayPost w (anV (ai 11 a b) 0)) := by
  have ea := w64u ha
  have eb := w64u hb
  have f1 := frombits_run a
  have f2 := frombits_run b
  unfold clV
  have e : b2u (decide (sg a < sg b)) = ai 11 a b := by show _ = (if sg a < sg b then (1 : Int) else 0); unfold b2u; simp
  rw [← e]
  clear e
  generalize sg a = x at *
  generalize sg b = y at *
  clear ha hb
  go_enter Try.func9, Try.ntmps9
  go_wp2_with (go_at_call 23; refine met (yes_any _ _) ?_)
  refine bodyPost_ret (v := anV _ 0) (by simp [results, Try.results9, go_sem, anV]) rfl ⟨rfl, ((Ext.alloc _ _ _).trans (Ext.alloc _ _ _)).trans (Ext.alloc _ _ _)⟩

set_option maxRecDepth 100000 in
set_option maxHeartbeats 4000000 in
theorem rarith_zero4 (a b : Int) (s s' : ByteArray) (t t' : Int) (ba ba' : Option Addr) (bl bc bl' bc' : Nat) (w : World) (hb : b = 0) :
    Calls Try.prog 9 #[.int .i64 4, clV a s t ba bl bc, clV b s' t' ba' bl' bc'] w (SayPost w (anV 0 9)) := by
  have f1 := frombits_run a
  have f2 := frombits_run b
  unfold clV
  subst hb
  have e0 : wrap64 0 = 0 := by unfold wrap64; omega
  go_enter Try.func9, Try.ntmps9
  go_wp2_with fail
  refine bodyPost_ret (v := anV 0 9) (by simp [results, Try.results9, go_sem, anV]) rfl ⟨rfl, ((Ext.alloc _ _ _).trans (Ext.alloc _ _ _)).trans (Ext.alloc _ _ _)⟩

set_option maxRecDepth 100000 in
set_option maxHeartbeats 4000000 in
theorem rarith_zero5 (a b : Int) (s s' : ByteArray) (t t' : Int) (ba ba' : Option Addr) (bl bc bl' bc' : Nat) (w : World) (hb : b = 0) :
    Calls Try.prog 9 #[.int .i64 5, clV a s t ba bl bc, clV b s' t' ba' bl' bc'] w (SayPost w (anV 0 9)) := by
  have f1 := frombits_run a
  have f2 := frombits_run b
  unfold clV
  subst hb
  have e0 : wrap64 0 = 0 := by unfold wrap64; omega
  go_enter Try.func9, Try.ntmps9
  go_wp2_with fail
  refine bodyPost_ret (v := anV 0 9) (by simp [results, Try.results9, go_sem, anV]) rfl ⟨rfl, ((Ext.alloc _ _ _).trans (Ext.alloc _ _ _)).trans (Ext.alloc _ _ _)⟩

set_option maxRecDepth 100000 in
set_option maxHeartbeats 4000000 in
theorem rarith_str (a b : Int) (s s' : ByteArray) (t t' : Int) (ba ba' : Option Addr) (bl bc bl' bc' : Nat) (w : World) :
    Calls Try.prog 9 #[.int .i64 17, clV a s t ba bl bc, clV b s' t' ba' bl' bc'] w (SayPost w (anV (b2u (Op.bytesLess s.toList s'.toList)) 0)) := by
  have f1 := frombits_run a
  have f2 := frombits_run b
  unfold clV
  go_enter Try.func9, Try.ntmps9
  go_wp2_with (go_at_call 23; refine met (yes_any _ _) ?_)
  refine bodyPost_ret (v := anV _ 0) (by simp [results, Try.results9, go_sem, anV]) rfl ⟨rfl, ((Ext.alloc _ _ _).trans (Ext.alloc _ _ _)).trans (Ext.alloc _ _ _)⟩

set_option maxRecDepth 100000 in
set_option maxHeartbeats 4000000 in
theorem rarith_and (a b : Int) (s s' : ByteArray) (t t' : Int) (ba ba' : Option Addr) (bl bc bl' bc' : Nat) (w : World) :
    Calls Try.prog 9 #[.int .i64 18, clV a s t ba bl bc, clV b s' t' ba' bl' bc'] w (SayPost w (anV (b2u (a != 0 && b != 0)) 0)) := by
  have f1 := frombits_run a
  have f2 := frombits_run b
  unfold clV
  by_cases h : a = 0
  · subst h
    go_enter Try.func9, Try.ntmps9
    go_wp2_with (go_at_call 23; refine met (yes_any _ _) ?_)
    refine bodyPost_ret (v := anV _ 0) (by simp [results, Try.results9, go_sem, anV]) rfl ⟨rfl, ((Ext.alloc _ _ _).trans (Ext.alloc _ _ _)).trans (Ext.alloc _ _ _)⟩
  · have h1 : (a != 0) = true := by simpa using h
    rw [h1, Bool.true_and]
    go_enter Try.func9, Try.ntmps9
    go_wp2_with (go_at_call 23; refine met (yes_any _ _) ?_)
    refine bodyPost_ret (v := anV _ 0) (by simp [results, Try.results9, go_sem, anV]) rfl ⟨rfl, ((Ext.alloc _ _ _).trans (Ext.alloc _ _ _)).trans (Ext.alloc _ _ _)⟩

set_option maxRecDepth 100000 in
set_option maxHeartbeats 4000000 in
theorem rarith_or (a b : Int) (s s' : ByteArray) (t t' : Int) (ba ba' : Option Addr) (bl bc bl' bc' : Nat) (w : World) :
    Calls Try.prog 9 #[.int .i64 19, clV a s t ba bl bc, clV b s' t' ba' bl' bc'] w (SayPost w (anV (b2u (a != 0 || b != 0)) 0)) := by
  have f1 := frombits_run a
  have f2 := frombits_run b
  unfold clV
  by_cases h : a = 0
  · subst h
    go_enter Try.func9, Try.ntmps9
    go_wp2_with (go_at_call 23; refine met (yes_any _ _) ?_)
    refine bodyPost_ret (v := anV _ 0) (by simp [results, Try.results9, go_sem, anV]) rfl ⟨rfl, ((Ext.alloc _ _ _).trans (Ext.alloc _ _ _)).trans (Ext.alloc _ _ _)⟩
  · have h1 : (a != 0) = true := by simpa using h
    rw [h1, Bool.true_or]
    go_enter Try.func9, Try.ntmps9
    go_wp2_with (go_at_call 23; refine met (yes_any _ _) ?_)
    refine bodyPost_ret (v := anV _ 0) (by simp [results, Try.results9, go_sem, anV]) rfl ⟨rfl, ((Ext.alloc _ _ _).trans (Ext.alloc _ _ _)).trans (Ext.alloc _ _ _)⟩

set_option maxRecDepth 100000 in
set_option maxHeartbeats 4000000 in
theorem rarith_bad (way : Int) (a b : Int) (s s' : ByteArray) (t t' : Int) (ba ba' : Option Addr) (bl bc bl' bc' : Nat) (w : World) (h : way < 1 ∨ 19 < way) :
    Calls Try.prog 9 #[.int .i64 way, clV a s t ba bl bc, clV b s' t' ba' bl' bc'] w (SayPost w (anV 0 2)) := by
  have f1 := frombits_run a
  have f2 := frombits_run b
  unfold clV
  have h1 : (way == 1) = false := by simp; omega
  have h2 : (way == 2) = false := by simp; omega
  have h3 : (way == 3) = false := by simp; omega
  have h4 : (way == 4) = false := by simp; omega
  have h5 : (way == 5) = false := by simp; omega
  have h6 : (way == 6) = false := by simp; omega
  have h7 : (way == 7) = false := by simp; omega
  have h8 : (way == 8) = false := by simp; omega
  have h9 : (way == 9) = false := by simp; omega
  have h10 : (way == 10) = false := by simp; omega
  have h11 : (way == 11) = false := by simp; omega
  have h12 : (way == 12) = false := by simp; omega
  have h13 : (way == 13) = false := by simp; omega
  have h14 : (way == 14) = false := by simp; omega
  have h15 : (way == 15) = false := by simp; omega
  have h16 : (way == 16) = false := by simp; omega
  have h17 : (way == 17) = false := by simp; omega
  have h18 : (way == 18) = false := by simp; omega
  have h19 : (way == 19) = false := by simp; omega
  clear h
  go_enter Try.func9, Try.ntmps9
  go_wp2_with fail
  refine bodyPost_ret (v := anV 0 2) (by simp [results, Try.results9, go_sem, anV]) rfl ⟨rfl, ((Ext.alloc _ _ _).trans (Ext.alloc _ _ _)).trans (Ext.alloc _ _ _)⟩

end Go.Proofs.Ytdedehfeekpioaa
