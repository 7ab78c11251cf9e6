/-
  The calls of a nil heap that give no iterator; no statement is proved here.
-/
import Derived.Test.YtlajjcboahflbaaDoorSpanB
namespace Go.Proofs.YtlajjcboahflbaaDoor
open Go.RowKit

theorem halloc_nil (s t : Int) (w : World) (hG : Gl w) : Calls Tryd.prog 15 #[.pointer none, .int .i64 s, .int .i64 t] w fun e w' => e = .returned (.tuple #[.int .i64 0, .int .i64 2]) ∧ w' = w := by
  have K := room_any s w hG
  generalize rmV s = rv at *
  generalize pgE s = pe at *
  go_enter Tryd.func15, Tryd.ntmps15
  go_wp2_with (first | (go_at_call 37; refine met K ?_) | fail "no arm")
  all_goals
    go_ret2
    exact ⟨rfl, rfl⟩

theorem within_nil (a n : Int) (w : World) : Calls Tryd.prog 35 #[.pointer none, .int .i64 a, .int .i64 n] w fun e w' => e = .returned (.int .i64 2) ∧ w' = w := by
  go_enter Tryd.func35, Tryd.ntmps35
  go_wp2
  go_ret
  exact ⟨rfl, rfl⟩

theorem hfree_nil (a : Int) (w : World) : Calls Tryd.prog 19 #[.pointer none, .int .i64 a] w fun e w' => e = .returned (.int .i64 2) ∧ w' = w := by
  go_enter Tryd.func19, Tryd.ntmps19
  go_wp2
  go_ret
  exact ⟨rfl, rfl⟩

theorem hbase_nil (a : Int) (w : World) : Calls Tryd.prog 18 #[.pointer none, .int .i64 a] w fun e w' => e = .returned (.tuple #[.int .i64 0, .int .i64 2]) ∧ w' = w := by
  go_enter Tryd.func18, Tryd.ntmps18
  go_wp2
  go_ret2
  exact ⟨rfl, rfl⟩

theorem hload_nil (a : Int) (w : World) : Calls Tryd.prog 23 #[.pointer none, .int .i64 a] w fun e w' => e = .returned (.tuple #[.int .u64 0, .int .i64 2]) ∧ w' = w := by
  go_enter Tryd.func23, Tryd.ntmps23
  go_wp2_with (first | (go_at_call 35; refine met (within_nil _ _ _) ?_) | fail "no arm")
  go_ret2
  exact ⟨rfl, rfl⟩

theorem hstore_nil (a v : Int) (w : World) : Calls Tryd.prog 24 #[.pointer none, .int .i64 a, .int .u64 v] w fun e w' => e = .returned (.int .i64 2) ∧ w' = w := by
  go_enter Tryd.func24, Tryd.ntmps24
  go_wp2_with (first | (go_at_call 35; refine met (within_nil _ _ _) ?_) | fail "no arm")
  go_ret
  exact ⟨rfl, rfl⟩

theorem hread_nil (a n : Int) (w : World) : Calls Tryd.prog 13 #[.pointer none, .int .i64 a, .int .i64 n] w fun e w' => e = .returned (.tuple #[.slice none 0 0, .int .i64 2]) ∧ w' = w := by
  go_enter Tryd.func13, Tryd.ntmps13
  go_wp2_with (first | (go_at_call 35; refine met (within_nil _ _ _) ?_) | fail "no arm")
  go_ret2
  exact ⟨rfl, rfl⟩

theorem hwrite_nil (a : Int) (b : Option Addr) (n c : Nat) (w : World) : Calls Tryd.prog 16 #[.pointer none, .int .i64 a, .slice b n c] w fun e w' => e = .returned (.int .i64 2) ∧ w' = w := by
  go_enter Tryd.func16, Tryd.ntmps16
  go_wp2_with (first | (go_at_call 35; refine met (within_nil _ _ _) ?_) | fail "no arm")
  go_ret
  exact ⟨rfl, rfl⟩

theorem hfits_nil (s : Int) (w : World) (hG : Gl w) : Calls Tryd.prog 14 #[.pointer none, .int .i64 s] w fun e w' => e = .returned (.bool false) ∧ w' = w := by
  have K := room_any s w hG
  generalize rmV s = rv at *
  generalize pgE s = pe at *
  go_enter Tryd.func14, Tryd.ntmps14
  go_wp2_with (first | (go_at_call 37; refine met K ?_) | fail "no arm")
  all_goals
    go_ret
    exact ⟨rfl, rfl⟩

end Go.Proofs.YtlajjcboahflbaaDoor
