/-
  The law's awake; no statement is proved here.
-/
import Derived.Test.YtlnncapokdoilaaDoorFormed
namespace Go.Proofs.YtlnncapokdoilaaDoor
open Go.RowKit

theorem ofInts_one (w : World) : Calls Tryd.prog 30 #[.int .i64 1, .int .i64 2, .int .i64 3] w (fun e w' => e = .returned (.int .u64 5) ∧ w' = w) := by
  have e1 : wrap64 5 = 5 := by unfold wrap64; omega
  go_enter Tryd.func30, Tryd.ntmps30
  go_wp2_with fail
  go_ret
  exact ⟨rfl, rfl⟩
theorem arith_one (w : World) : Calls Tryd.prog 17 #[.int .i64 1, .agg #[.int .u64 2, .string ⟨#[]⟩, .int .i64 0, .slice none 0 0], .agg #[.int .u64 3, .string ⟨#[]⟩, .int .i64 0, .slice none 0 0]] w (SayPost w (.tuple #[.agg #[.int .u64 5, .string ⟨#[]⟩, .int .i64 0, .slice none 0 0], .int .i64 0])) := by
  go_enter Tryd.func17, Tryd.ntmps17
  go_wp2_with (go_at_call 30; refine met (ofInts_one _) ?_)
  refine bodyPost_ret (v := .tuple #[.agg #[.int .u64 5, .string ⟨#[]⟩, .int .i64 0, .slice none 0 0], .int .i64 0]) (by simp [results, Tryd.results17, go_sem]) rfl ⟨rfl, ((Ext.alloc _ _ _).trans (Ext.alloc _ _ _)).trans (Ext.alloc _ _ _)⟩
theorem awake_any (w : World) : Calls Tryd.prog 6 #[] w (SayPost w (.bool true)) := by
  go_enter Tryd.func6, Tryd.ntmps6
  go_wp2_with (go_at_call 17; refine (arith_one _).mono ?_; rintro e w1 ⟨rfl, hE⟩; replace hE := hid hE)
  go_ret
  exact ⟨rfl, hE.out.trans (Ext.alloc _ _ _)⟩
end Go.Proofs.YtlnncapokdoilaaDoor
