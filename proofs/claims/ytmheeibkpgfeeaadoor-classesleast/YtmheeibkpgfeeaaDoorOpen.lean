/-
  What a walk is told of the program's own table of sizes; no statement is proved here.
-/
import Derived.Test.YtmheeibkpgfeeaaDoorRef
import Derived.Test.YtmheeibkpgfeeaaDoorTie
import Derived.OpenShut
import Derived.ShutString
import Derived.ChangeOld
import Derived.SizedLaws
import Derived.Lib.LaidU8
import Derived.Lay
import Derived.MakeChecks
import Derived.Handed
namespace Go.Proofs.YtmheeibkpgfeeaaDoor
open Go.ChangeShapes Go.WideShapes Go.ChangeAt Go.RowKit

theorem own : ownKnob Tryd.prog.godebug = none := by kernel_rfl
theorem laidOut : laidOutB Tryd.prog = true := by kernel_rfl
theorem cells3 : Tryd.prog.cellsOf 3 = 1 := by kernel_rfl

theorem gl_of {W : World} (hL : laidMetH Tryd.prog [("heddle/classes.slots", Rows.laid_heddle_classes_slots)] W) : Gl W := by
  rw [MakeChecks.laidMetH_plain _ _ _ (by kernel_rfl)] at hL
  obtain ⟨g, t, cs, fuel, p, hg, hty, hvar, hd⟩ := Lib.laidMet.reads hL (.head _)
  obtain rfl := Option.some.inj ((show Tryd.prog.globalNamed "heddle/classes.slots" = some 0 by kernel_rfl).symm.trans hg)
  obtain rfl := Option.some.inj ((show (Tryd.prog.globals[0]?).map (·.type) = some 28 by kernel_rfl).symm.trans hty)
  have hcs : cs.toList = [8, 16, 24, 32, 48, 64, 96, 128].map (Value.int .i64) := Lib.cells_of_tab (k := .i64) (zs := [8, 16, 24, 32, 48, 64, 96, 128]) Tryd.underlying28 Tryd.underlying3 cells3 (by kernel_rfl) hd
  intro k hk
  rw [World.var?_cell hg hvar k, ← Array.getElem?_toList, hcs]
  rcases k8 (by omega : k < 8) with rfl | rfl | rfl | rfl | rfl | rfl | rfl | rfl <;> rfl

end Go.Proofs.YtmheeibkpgfeeaaDoor
