/-
  The reference's Arith of floats; no statement is proved here.
-/
import Derived.Test.YtdedehfeekpioaaRMath
import Derived.Test.YtdedehfeekpioaaArithB
namespace Go.Proofs.Ytdedehfeekpioaa
open Go.RowKit

set_option maxRecDepth 100000 in
set_option maxHeartbeats 4000000 in
theorem rarith_12 (a b : Int) (s s' : ByteArray) (t t' : Int) (ba ba' : Option Addr) (bl bc bl' bc' : Nat) (w : World) :
    Calls Try.prog 9 #[.int .i64 12, clV a s t ba bl bc, clV b s' t' ba' bl' bc'] w (SayPost w (anV (fw 12 a.toNat b.toNat) 0)) := by
  have f1 := frombits_run a
  have f2 := frombits_run b
  unfold clV
  show Calls _ _ _ _ (SayPost w (anV (fo .add a.toNat b.toNat) 0))
  obtain ⟨r, m, hr, hn, hlt⟩ := farith_run .add (by simp) a.toNat b.toNat (((w.alloc (.cells #[.int .u64 a, .string s, .int .i64 t, .slice ba bl bc] 25)).alloc (.cells #[.int .u64 b, .string s', .int .i64 t', .slice ba' bl' bc'] 25)).alloc (.cells #[.int .u64 0, .string ⟨#[]⟩, .int .i64 0, .slice none 0 0] 25))
  rw [← hn]
  have KB := fun u => rbits_any r hlt u
  clear hn hlt
  go_enter Try.func9, Try.ntmps9
  go_wp2_with (go_at_call 24; refine met (KB _) ?_)
  refine bodyPost_ret (v := anV (nb r) 0) (by simp [results, Try.results9, go_sem, anV]) rfl ⟨rfl, ?_⟩
  exact ext_res ((((Ext.alloc _ _ _).trans (Ext.alloc _ _ _)).trans (Ext.alloc _ _ _)).trans (Ext.drewN _ _ _)) (by omega) _ _ _ _

set_option maxRecDepth 100000 in
set_option maxHeartbeats 4000000 in
theorem rarith_13 (a b : Int) (s s' : ByteArray) (t t' : Int) (ba ba' : Option Addr) (bl bc bl' bc' : Nat) (w : World) :
    Calls Try.prog 9 #[.int .i64 13, clV a s t ba bl bc, clV b s' t' ba' bl' bc'] w (SayPost w (anV (fw 13 a.toNat b.toNat) 0)) := by
  have f1 := frombits_run a
  have f2 := frombits_run b
  unfold clV
  show Calls _ _ _ _ (SayPost w (anV (fo .sub a.toNat b.toNat) 0))
  obtain ⟨r, m, hr, hn, hlt⟩ := farith_run .sub (by simp) a.toNat b.toNat (((w.alloc (.cells #[.int .u64 a, .string s, .int .i64 t, .slice ba bl bc] 25)).alloc (.cells #[.int .u64 b, .string s', .int .i64 t', .slice ba' bl' bc'] 25)).alloc (.cells #[.int .u64 0, .string ⟨#[]⟩, .int .i64 0, .slice none 0 0] 25))
  rw [← hn]
  have KB := fun u => rbits_any r hlt u
  clear hn hlt
  go_enter Try.func9, Try.ntmps9
  go_wp2_with (go_at_call 24; refine met (KB _) ?_)
  refine bodyPost_ret (v := anV (nb r) 0) (by simp [results, Try.results9, go_sem, anV]) rfl ⟨rfl, ?_⟩
  exact ext_res ((((Ext.alloc _ _ _).trans (Ext.alloc _ _ _)).trans (Ext.alloc _ _ _)).trans (Ext.drewN _ _ _)) (by omega) _ _ _ _

set_option maxRecDepth 100000 in
set_option maxHeartbeats 4000000 in
theorem rarith_14 (a b : Int) (s s' : ByteArray) (t t' : Int) (ba ba' : Option Addr) (bl bc bl' bc' : Nat) (w : World) :
    Calls Try.prog 9 #[.int .i64 14, clV a s t ba bl bc, clV b s' t' ba' bl' bc'] w (SayPost w (anV (fw 14 a.toNat b.toNat) 0)) := by
  have f1 := frombits_run a
  have f2 := frombits_run b
  unfold clV
  show Calls _ _ _ _ (SayPost w (anV (fo .mul a.toNat b.toNat) 0))
  obtain ⟨r, m, hr, hn, hlt⟩ := farith_run .mul (by simp) a.toNat b.toNat (((w.alloc (.cells #[.int .u64 a, .string s, .int .i64 t, .slice ba bl bc] 25)).alloc (.cells #[.int .u64 b, .string s', .int .i64 t', .slice ba' bl' bc'] 25)).alloc (.cells #[.int .u64 0, .string ⟨#[]⟩, .int .i64 0, .slice none 0 0] 25))
  rw [← hn]
  have KB := fun u => rbits_any r hlt u
  clear hn hlt
  go_enter Try.func9, Try.ntmps9
  go_wp2_with (go_at_call 24; refine met (KB _) ?_)
  refine bodyPost_ret (v := anV (nb r) 0) (by simp [results, Try.results9, go_sem, anV]) rfl ⟨rfl, ?_⟩
  exact ext_res ((((Ext.alloc _ _ _).trans (Ext.alloc _ _ _)).trans (Ext.alloc _ _ _)).trans (Ext.drewN _ _ _)) (by omega) _ _ _ _

set_option maxRecDepth 100000 in
set_option maxHeartbeats 4000000 in
theorem rarith_15 (a b : Int) (s s' : ByteArray) (t t' : Int) (ba ba' : Option Addr) (bl bc bl' bc' : Nat) (w : World) :
    Calls Try.prog 9 #[.int .i64 15, clV a s t ba bl bc, clV b s' t' ba' bl' bc'] w (SayPost w (anV (fw 15 a.toNat b.toNat) 0)) := by
  have f1 := frombits_run a
  have f2 := frombits_run b
  unfold clV
  show Calls _ _ _ _ (SayPost w (anV (fo .quo a.toNat b.toNat) 0))
  obtain ⟨r, m, hr, hn, hlt⟩ := farith_run .quo (by simp) a.toNat b.toNat (((w.alloc (.cells #[.int .u64 a, .string s, .int .i64 t, .slice ba bl bc] 25)).alloc (.cells #[.int .u64 b, .string s', .int .i64 t', .slice ba' bl' bc'] 25)).alloc (.cells #[.int .u64 0, .string ⟨#[]⟩, .int .i64 0, .slice none 0 0] 25))
  rw [← hn]
  have KB := fun u => rbits_any r hlt u
  clear hn hlt
  go_enter Try.func9, Try.ntmps9
  go_wp2_with (go_at_call 24; refine met (KB _) ?_)
  refine bodyPost_ret (v := anV (nb r) 0) (by simp [results, Try.results9, go_sem, anV]) rfl ⟨rfl, ?_⟩
  exact ext_res ((((Ext.alloc _ _ _).trans (Ext.alloc _ _ _)).trans (Ext.alloc _ _ _)).trans (Ext.drewN _ _ _)) (by omega) _ _ _ _

set_option maxRecDepth 100000 in
set_option maxHeartbeats 4000000 in
theorem rarith_16 (a b : Int) (s s' : ByteArray) (t t' : Int) (ba ba' : Option Addr) (bl bc bl' bc' : Nat) (w : World) :
    Calls Try.prog 9 #[.int .i64 16, clV a s t ba bl bc, clV b s' t' ba' bl' bc'] w (SayPost w (anV (fw 16 a.toNat b.toNat) 0)) := by
  have f1 := frombits_run a
  have f2 := frombits_run b
  unfold clV
  show Calls _ _ _ _ (SayPost w (anV (b2u (flt a.toNat b.toNat)) 0))
  go_enter Try.func9, Try.ntmps9
  go_wp2_with (go_at_call 23; refine met (yes_any _ _) ?_)
  refine bodyPost_ret (v := anV _ 0) (by simp [results, Try.results9, go_sem, anV, flt]) rfl ⟨rfl, ((Ext.alloc _ _ _).trans (Ext.alloc _ _ _)).trans (Ext.alloc _ _ _)⟩

end Go.Proofs.Ytdedehfeekpioaa
