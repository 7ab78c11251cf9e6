/-
  The law's own small functions; no statement is proved here.
-/
import Derived.Test.YtdedehfeekpioaaArithB
import Derived.Test.YtdedehfeekpioaaLaws
namespace Go.Proofs.Ytdedehfeekpioaa
open Go.RowKit

theorem awake_any (w : World) : Calls Try.prog 7 #[] w (SayPost w (.bool true)) := by
  have K : ∀ u, Calls Try.prog 8 #[.int .i64 1, .agg #[.int .u64 2, .string ⟨#[]⟩, .int .i64 0, .slice none 0 0], .agg #[.int .u64 3, .string ⟨#[]⟩, .int .i64 0, .slice none 0 0]] u (SayPost u (.tuple #[.agg #[.int .u64 5, .string ⟨#[]⟩, .int .i64 0, .slice none 0 0], .int .i64 0])) := fun u => arith_int 1 2 3 ⟨#[]⟩ ⟨#[]⟩ 0 0 none none 0 0 0 0 u (by omega) (by omega) (by unfold U; omega) (by unfold U; omega) (by omega)
  go_enter Try.func7, Try.ntmps7
  go_wp2_with (go_at_call 8; refine (K _).mono ?_; clear K; rintro e w1 ⟨rfl, hE⟩; replace hE := hid hE)
  go_ret
  exact ⟨rfl, hE.out.trans (Ext.alloc _ _ _)⟩
theorem do_any (way : Nat) (a b : Int) (w : World) (h1 : 1 ≤ way) (h2 : way ≤ 11) (ha : U a) (hb : U b) (hz : (way = 4 ∨ way = 5) → b ≠ 0) :
    Calls Try.prog 17 #[.int .i64 way, .int .u64 a, .int .u64 b] w (SayPost w (.int .u64 (ai way a b))) := by
  have K : ∀ u, Calls Try.prog 8 #[.int .i64 way, .agg #[.int .u64 a, .string ⟨#[]⟩, .int .i64 0, .slice none 0 0], .agg #[.int .u64 b, .string ⟨#[]⟩, .int .i64 0, .slice none 0 0]] u (SayPost u (.tuple #[.agg #[.int .u64 (ai way a b), .string ⟨#[]⟩, .int .i64 0, .slice none 0 0], .int .i64 0])) := fun u => arith_int way a b ⟨#[]⟩ ⟨#[]⟩ 0 0 none none 0 0 0 0 u h1 h2 ha hb hz
  generalize ai way a b = r at *
  clear hz ha hb h1 h2
  go_enter Try.func17, Try.ntmps17
  go_wp2_with (go_at_call 8; refine (K _).mono ?_; clear K; rintro e w1 ⟨rfl, hE⟩; replace hE := hid hE)
  go_ret
  exact ⟨rfl, hE.out.trans (Ext.alloc _ _ _)⟩
end Go.Proofs.Ytdedehfeekpioaa
