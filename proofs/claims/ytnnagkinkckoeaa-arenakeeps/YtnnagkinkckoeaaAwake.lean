/-
  What the statements' own small helpers do (awake); no statement is proved here.
-/
import Derived.Test.YtnnagkinkckoeaaArenaTwo
namespace Go.Proofs.Ytnnagkinkckoeaa
open Go.RowKit

/-- The answer v, and nothing that was there has turned. -/
def SayPost (w : World) (v : Value) (e : Ending) (w' : World) : Prop := e = .returned v ∧ Ext [] w w'

theorem awake_num : numAt (put (List.replicate 8 0) 0 (byteOf 258) 2) 0 1 = 2 := by decide

theorem awake_any (w : World) : Calls Try.prog 9 #[] w (SayPost w (.bool true)) := by
  go_enter Try.func9, Try.ntmps9
  go_wp2_with fail
  refine (new_ok 8 w (by omega)).mono ?_
  rintro e w1 ⟨rfl, hA1, hE1⟩
  go_wp2_with fail
  have K2 := store_ok 0 2 258 (by omega) _ _ w1 _ hA1 (by simp) (by simp)
  refine K2.mono ?_
  rintro e w2 ⟨rfl, hA2, hE2⟩
  go_wp2_with fail
  refine met (load_ok 0 1 _ _ w2 _ hA2 (by rw [length_put]; simp) (by simp)) ?_
  have K3 := size_any w2 _ _ _ hA2
  rw [length_put, List.length_replicate] at K3
  rw [awake_num]
  go_wp2_with (go_at_call 11; refine met K3 ?_)
  go_ret
  refine ⟨rfl, ?_⟩
  exact (hE1.mono (by simp)).trans hE2 |>.drop (by simp)

end Go.Proofs.Ytnnagkinkckoeaa
