/-
  Open: joined by program; no statement is proved here.
-/
import Derived.Test.YtjbbomokgpoilaaGreatDoorZHA
import Derived.OpenShut
import Derived.ShutString
import Derived.ChangeOld
import Derived.SizedLaws
import Derived.Lib.LaidU8
import Derived.Lay
import Derived.MakeChecks
import Derived.Handed
/-
  What a law's frame asks of this program; no statement is proved here.
-/
namespace Go.Proofs.YtjbbomokgpoilaaGreatDoor
open Go.ChangeShapes Go.WideShapes Go.ChangeAt Go.RowKit

theorem own : ownKnob Tryz.prog.godebug = none := by kernel_rfl
theorem laidOut : laidOutB Tryz.prog = true := by kernel_rfl
theorem cells3 : Tryz.prog.cellsOf 3 = 1 := by kernel_rfl

theorem gl_of {W : World} (hL : laidMetH Tryz.prog [("heddle/classes.slots", Rows.laid_heddle_classes_slots)] W) : Gl W := by
  rw [MakeChecks.laidMetH_plain _ _ _ (by kernel_rfl)] at hL
  obtain ⟨g, t, cs, fuel, p, hg, hty, hvar, hd⟩ := Lib.laidMet.reads hL (.head _)
  obtain rfl := Option.some.inj ((show Tryz.prog.globalNamed "heddle/classes.slots" = some 0 by kernel_rfl).symm.trans hg)
  obtain rfl := Option.some.inj ((show (Tryz.prog.globals[0]?).map (·.type) = some 177 by kernel_rfl).symm.trans hty)
  have hcs : cs.toList = [8, 16, 24, 32, 48, 64, 96, 128].map (Value.int .i64) := Lib.cells_of_tab (k := .i64) (zs := [8, 16, 24, 32, 48, 64, 96, 128]) Tryz.underlying177 Tryz.underlying3 cells3 (by kernel_rfl) hd
  intro k hk
  rw [World.var?_cell hg hvar k, ← Array.getElem?_toList, hcs]
  rcases k8 (by omega : k < 8) with rfl | rfl | rfl | rfl | rfl | rfl | rfl | rfl <;> rfl

theorem i64_of_wf {n : Int} (h : (Lit.int .i64 n).wf = true) : I64 n := by
  have := bounds_i64 h
  unfold I64; omega
theorem u64_of_wf {n : Int} (h : (Lit.int .u64 n).wf = true) : 0 ≤ n ∧ n < 18446744073709551616 := by
  have := bounds_u64 h
  omega



end Go.Proofs.YtjbbomokgpoilaaGreatDoor
