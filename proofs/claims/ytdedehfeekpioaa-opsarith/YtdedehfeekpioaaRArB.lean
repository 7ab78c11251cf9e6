/-
  The reference's Arith of quotients and rests; no statement is proved here.
-/
import Derived.Test.YtdedehfeekpioaaRMath
import Derived.Test.YtdedehfeekpioaaArithB
namespace Go.Proofs.Ytdedehfeekpioaa
open Go.RowKit

set_option maxRecDepth 100000 in
set_option maxHeartbeats 4000000 in
theorem rarith_4 (a b : Int) (s s' : ByteArray) (t t' : Int) (ba ba' : Option Addr) (bl bc bl' bc' : Nat) (w : World) (ha : U a) (hb : U b) (hz : b ≠ 0) :
    Calls Try.prog 9 #[.int .i64 4, clV a s t ba bl bc, clV b s' t' ba' bl' bc'] w (SayPost w (anV (ai 4 a b) 0)) := by
  have ea := w64u ha
  have eb := w64u hb
  have f1 := frombits_run a
  have f2 := frombits_run b
  unfold clV
  have ra := sg_range ha
  have rb := sg_range hb
  have Ka := fun u => size_any (sg a) u ra
  have Kb := fun u => size_any (sg b) u rb
  have hb0 : ¬ sg b = 0 := fun h => hz ((sg_zero hb).1 h)
  have hb1 : (sg b == 0) = false := by simpa using hb0
  have hs0 : ¬ sz (sg b) = 0 := fun h => hb0 (sz_zero.1 h)
  have hs1 : (sz (sg b) == 0) = false := by simpa using hs0
  have hd : IntKind.u64.wrap ((sz (sg a)).tdiv (sz (sg b))) = (sz (sg a)).tdiv (sz (sg b)) := by rw [wrapU]; exact um_id (div_U (sz_U ra) (sz_U rb))
  by_cases hq : decide (sg a < 0) = decide (sg b < 0)
  · have e : (sz (sg a)).tdiv (sz (sg b)) = ai 4 a b := by rw [← hd, wrapU]; exact quo_same _ _ ra hq
    rw [← e]
    clear e hz ra rb ha hb
    have hq1 : (decide (sg a < 0) != decide (sg b < 0)) = false := by simpa using hq
    have hq2 : (decide (sg a < 0) == decide (sg b < 0)) = true := by simpa using hq
    generalize sg a = x at *
    generalize sg b = y at *
    generalize sz x = x' at *
    generalize sz y = y' at *
    clear hq
    go_enter Try.func9, Try.ntmps9
    go_wp2_with (first | (go_at_call 22; refine met (Ka _) ?_; clear Ka) | (go_at_call 22; refine met (Kb _) ?_; clear Kb) | fail "no arm")
    refine bodyPost_ret (v := anV _ 0) (by simp [results, Try.results9, go_sem, anV]) rfl ⟨rfl, ((Ext.alloc _ _ _).trans (Ext.alloc _ _ _)).trans (Ext.alloc _ _ _)⟩
  · have e : IntKind.u64.wrap (-(sz (sg a)).tdiv (sz (sg b))) = ai 4 a b := by rw [wrapU]; exact quo_diff _ _ hq
    rw [← e]
    clear e hz ra rb ha hb
    have hq1 : (decide (sg a < 0) != decide (sg b < 0)) = true := by simpa using hq
    have hq2 : (decide (sg a < 0) == decide (sg b < 0)) = false := by simpa using hq
    generalize sg a = x at *
    generalize sg b = y at *
    generalize sz x = x' at *
    generalize sz y = y' at *
    clear hq
    go_enter Try.func9, Try.ntmps9
    go_wp2_with (first | (go_at_call 22; refine met (Ka _) ?_; clear Ka) | (go_at_call 22; refine met (Kb _) ?_; clear Kb) | fail "no arm")
    refine bodyPost_ret (v := anV _ 0) (by simp [results, Try.results9, go_sem, anV]) rfl ⟨rfl, ((Ext.alloc _ _ _).trans (Ext.alloc _ _ _)).trans (Ext.alloc _ _ _)⟩

set_option maxRecDepth 100000 in
set_option maxHeartbeats 4000000 in
theorem rarith_5 (a b : Int) (s s' : ByteArray) (t t' : Int) (ba ba' : Option Addr) (bl bc bl' bc' : Nat) (w : World) (ha : U a) (hb : U b) (hz : b ≠ 0) :
    Calls Try.prog 9 #[.int .i64 5, clV a s t ba bl bc, clV b s' t' ba' bl' bc'] w (SayPost w (anV (ai 5 a b) 0)) := by
  have ea := w64u ha
  have eb := w64u hb
  have f1 := frombits_run a
  have f2 := frombits_run b
  unfold clV
  have ra := sg_range ha
  have rb := sg_range hb
  have Ka := fun u => size_any (sg a) u ra
  have Kb := fun u => size_any (sg b) u rb
  have hb0 : ¬ sg b = 0 := fun h => hz ((sg_zero hb).1 h)
  have hb1 : (sg b == 0) = false := by simpa using hb0
  have hs0 : ¬ sz (sg b) = 0 := fun h => hb0 (sz_zero.1 h)
  have hs1 : (sz (sg b) == 0) = false := by simpa using hs0
  have hd : um ((sz (sg a)).tmod (sz (sg b))) = (sz (sg a)).tmod (sz (sg b)) := um_id (mod_U (sz_U ra) (sz_U rb))
  by_cases hq : sg a < 0
  · have e : IntKind.u64.wrap (-(sz (sg a)).tmod (sz (sg b))) = ai 5 a b := by rw [wrapU, rem_neg _ _ hq]; rfl
    rw [← e]
    clear e hz hd ra rb ha hb
    generalize sg a = x at *
    generalize sg b = y at *
    generalize sz x = x' at *
    generalize sz y = y' at *
    go_enter Try.func9, Try.ntmps9
    go_wp2_with (first | (go_at_call 22; refine met (Ka _) ?_; clear Ka) | (go_at_call 22; refine met (Kb _) ?_; clear Kb) | fail "no arm")
    refine bodyPost_ret (v := anV _ 0) (by simp [results, Try.results9, go_sem, anV]) rfl ⟨rfl, ((Ext.alloc _ _ _).trans (Ext.alloc _ _ _)).trans (Ext.alloc _ _ _)⟩
  · have e : (sz (sg a)).tmod (sz (sg b)) = ai 5 a b := by rw [← hd, rem_pos _ _ (by omega)]; rfl
    rw [← e]
    have hq1 : 0 ≤ sg a := by omega
    clear e hz hd ra rb ha hb
    generalize sg a = x at *
    generalize sg b = y at *
    generalize sz x = x' at *
    generalize sz y = y' at *
    go_enter Try.func9, Try.ntmps9
    go_wp2_with (first | (go_at_call 22; refine met (Ka _) ?_; clear Ka) | (go_at_call 22; refine met (Kb _) ?_; clear Kb) | fail "no arm")
    refine bodyPost_ret (v := anV _ 0) (by simp [results, Try.results9, go_sem, anV]) rfl ⟨rfl, ((Ext.alloc _ _ _).trans (Ext.alloc _ _ _)).trans (Ext.alloc _ _ _)⟩

end Go.Proofs.Ytdedehfeekpioaa
