/-
  NARROWER THAN 'FOR EVERY INPUT', by the rows' own cells (each row's printed sentence says how): MemoryNil: laid · MemoryWrites: laid · MemoryCuts: laid · MemoryView: laid · MemoryCollects: laid · MemoryFull: laid.
  DERIVED. THE GIVEN ROWS OF THIS SEAT. 6 by the template 'for every input the law returns true; each argument reads behind the call as it read before'; 0 by the template 'total and deterministic' (their statements: YtjbbomokgpoilaaGreatDoorTotals.lean).
  GIVEN WITH THE SEED: the statements are not yours to turn. If you find one false, say at which input.
  Laid BY PROGRAM, IN A SANDBOX (cutbox-rows.mjs): the forced cells as the released guide's own fill.sh prints them over the translation e6895973648298e5… (all of the seat's roots in one cut). By AI agents, Wed Nov 11 2026. No macro, syntax, notation, axiom, sorry.
-/
import Derived.Test.YtjbbomokgpoilaaGreatDoorChecked
import GoSem.Claim
import GoSem.ClaimJoined
import GoSem.ClaimMapViews
import Derived.JoinedTies
import Derived.KernelRfl
namespace Go.Proofs.YtjbbomokgpoilaaGreatDoor
/- THE CELL 'sum', in the pinned program and in every row, IS THE sha256 OF THE DUMP (.gsa) THAT YtjbbomokgpoilaaGreatDoorProg.lean LOADS. Nothing in Lean hashes anything: it is a label: what it is worth is what the hold of that sum in a sandbox is worth. -/
noncomputable def Tryz.pinned : Pinned := { name := "ytjbbomokgpoilaagreatdoor", sum := "e6895973648298e51b33d3227f5283201425b604e64a3ee44cf02fec59cd6f2a", checked := Tryz.checked }
namespace Rows
def none {H : Type} : Left H := { results := [], args := [] }

/- WHAT THE LISTED PACKAGE-LEVEL VARIABLES READ AS WHEN THE CALL BEGINS. Each datum BY PROGRAM (the guide's laid-datum.mjs) off the statement by which the dump's own 'gosem.cut.vars' lays the variable. In a bare row this is a premise. The card (YtjbbomokgpoilaaGreatDoorCards.lean) ties it to the program's text. -/
def laid_heddle_classes_slots {H : Type} : DataW H := .agg [.lit (.int .i64 8), .lit (.int .i64 16), .lit (.int .i64 24), .lit (.int .i64 32), .lit (.int .i64 48), .lit (.int .i64 64), .lit (.int .i64 96), .lit (.int .i64 128)]

/-- 'heddlelaw09.MemoryNil': WHATEVER THE INPUT: true; the input reads as it did. -/
def memoryNilSpec : ChangeSpec := { name := "memoryNil", fn := fun _ => fun
  | [] => { results := [.lit (.bool true)], args := [] }
  | _ => none }
def memoryNilRow : OpenClaim := { program := "ytjbbomokgpoilaagreatdoor", sum := "e6895973648298e51b33d3227f5283201425b604e64a3ee44cf02fec59cd6f2a", func := "heddle/heddlelaw09.MemoryNil", spec := "memoryNil", inPlace := ["slices.overlaps[heddle/api.Run]"], unfollowed := true, recurses := true, named := ["heddle/classes.slots"], apart := false, laid := [("heddle/classes.slots", laid_heddle_classes_slots)] }
def MemoryNilSaid : Prop := memoryNilRow.holds Tryz.pinned (OpenSpec.ofChange memoryNilSpec)

/-- ITS FALSE NEIGHBOUR: 'it returns false'. Refute it at one input. -/
def memoryNilWrong : ChangeSpec := { name := "memoryNil", fn := fun _ => fun
  | [] => { results := [.lit (.bool false)], args := [] }
  | _ => none }
def MemoryNilWrongFalsely : Prop := memoryNilRow.holds Tryz.pinned (OpenSpec.ofChange memoryNilWrong)

/-- 'heddlelaw09.MemoryWrites': WHATEVER THE INPUT: true; the input reads as it did. -/
def memoryWritesSpec : ChangeSpec := { name := "memoryWrites", fn := fun _ => fun
  | [d1, d2, d3, d4, d5, d6, d7] => { results := [.lit (.bool true)], args := [d1, d2, d3, d4, d5, d6, d7] }
  | _ => none }
def memoryWritesRow : OpenClaim := { program := "ytjbbomokgpoilaagreatdoor", sum := "e6895973648298e51b33d3227f5283201425b604e64a3ee44cf02fec59cd6f2a", func := "heddle/heddlelaw09.MemoryWrites", spec := "memoryWrites", inPlace := ["slices.overlaps[heddle/api.Run]"], unfollowed := true, recurses := true, named := ["heddle/classes.slots"], apart := false, laid := [("heddle/classes.slots", laid_heddle_classes_slots)] }
def MemoryWritesSaid : Prop := memoryWritesRow.holds Tryz.pinned (OpenSpec.ofChange memoryWritesSpec)

/-- ITS FALSE NEIGHBOUR: 'it returns false'. Refute it at one input. -/
def memoryWritesWrong : ChangeSpec := { name := "memoryWrites", fn := fun _ => fun
  | [d1, d2, d3, d4, d5, d6, d7] => { results := [.lit (.bool false)], args := [d1, d2, d3, d4, d5, d6, d7] }
  | _ => none }
def MemoryWritesWrongFalsely : Prop := memoryWritesRow.holds Tryz.pinned (OpenSpec.ofChange memoryWritesWrong)

/-- 'heddlelaw09.MemoryCuts': WHATEVER THE INPUT: true; the input reads as it did. -/
def memoryCutsSpec : ChangeSpec := { name := "memoryCuts", fn := fun _ => fun
  | [d1, d2, d3, d4, d5] => { results := [.lit (.bool true)], args := [d1, d2, d3, d4, d5] }
  | _ => none }
def memoryCutsRow : OpenClaim := { program := "ytjbbomokgpoilaagreatdoor", sum := "e6895973648298e51b33d3227f5283201425b604e64a3ee44cf02fec59cd6f2a", func := "heddle/heddlelaw09.MemoryCuts", spec := "memoryCuts", inPlace := ["slices.overlaps[heddle/api.Run]"], unfollowed := true, recurses := true, named := ["heddle/classes.slots"], apart := false, laid := [("heddle/classes.slots", laid_heddle_classes_slots)] }
def MemoryCutsSaid : Prop := memoryCutsRow.holds Tryz.pinned (OpenSpec.ofChange memoryCutsSpec)

/-- ITS FALSE NEIGHBOUR: 'it returns false'. Refute it at one input. -/
def memoryCutsWrong : ChangeSpec := { name := "memoryCuts", fn := fun _ => fun
  | [d1, d2, d3, d4, d5] => { results := [.lit (.bool false)], args := [d1, d2, d3, d4, d5] }
  | _ => none }
def MemoryCutsWrongFalsely : Prop := memoryCutsRow.holds Tryz.pinned (OpenSpec.ofChange memoryCutsWrong)

/-- 'heddlelaw09.MemoryView': WHATEVER THE INPUT: true; the input reads as it did. -/
def memoryViewSpec : ChangeSpec := { name := "memoryView", fn := fun _ => fun
  | [d1, d2, d3, d4] => { results := [.lit (.bool true)], args := [d1, d2, d3, d4] }
  | _ => none }
def memoryViewRow : OpenClaim := { program := "ytjbbomokgpoilaagreatdoor", sum := "e6895973648298e51b33d3227f5283201425b604e64a3ee44cf02fec59cd6f2a", func := "heddle/heddlelaw09.MemoryView", spec := "memoryView", inPlace := ["slices.overlaps[heddle/api.Run]"], unfollowed := true, recurses := true, named := ["heddle/classes.slots"], apart := false, laid := [("heddle/classes.slots", laid_heddle_classes_slots)] }
def MemoryViewSaid : Prop := memoryViewRow.holds Tryz.pinned (OpenSpec.ofChange memoryViewSpec)

/-- ITS FALSE NEIGHBOUR: 'it returns false'. Refute it at one input. -/
def memoryViewWrong : ChangeSpec := { name := "memoryView", fn := fun _ => fun
  | [d1, d2, d3, d4] => { results := [.lit (.bool false)], args := [d1, d2, d3, d4] }
  | _ => none }
def MemoryViewWrongFalsely : Prop := memoryViewRow.holds Tryz.pinned (OpenSpec.ofChange memoryViewWrong)

/-- 'heddlelaw09.MemoryCollects': WHATEVER THE INPUT: true; the input reads as it did. -/
def memoryCollectsSpec : ChangeSpec := { name := "memoryCollects", fn := fun _ => fun
  | [d1, d2, d3, d4] => { results := [.lit (.bool true)], args := [d1, d2, d3, d4] }
  | _ => none }
def memoryCollectsRow : OpenClaim := { program := "ytjbbomokgpoilaagreatdoor", sum := "e6895973648298e51b33d3227f5283201425b604e64a3ee44cf02fec59cd6f2a", func := "heddle/heddlelaw09.MemoryCollects", spec := "memoryCollects", inPlace := ["slices.overlaps[heddle/api.Run]"], unfollowed := true, recurses := true, named := ["heddle/classes.slots"], apart := false, laid := [("heddle/classes.slots", laid_heddle_classes_slots)] }
def MemoryCollectsSaid : Prop := memoryCollectsRow.holds Tryz.pinned (OpenSpec.ofChange memoryCollectsSpec)

/-- ITS FALSE NEIGHBOUR: 'it returns false'. Refute it at one input. -/
def memoryCollectsWrong : ChangeSpec := { name := "memoryCollects", fn := fun _ => fun
  | [d1, d2, d3, d4] => { results := [.lit (.bool false)], args := [d1, d2, d3, d4] }
  | _ => none }
def MemoryCollectsWrongFalsely : Prop := memoryCollectsRow.holds Tryz.pinned (OpenSpec.ofChange memoryCollectsWrong)

/-- 'heddlelaw09.MemoryFull': WHATEVER THE INPUT: true; the input reads as it did. -/
def memoryFullSpec : ChangeSpec := { name := "memoryFull", fn := fun _ => fun
  | [d1, d2, d3, d4, d5] => { results := [.lit (.bool true)], args := [d1, d2, d3, d4, d5] }
  | _ => none }
def memoryFullRow : OpenClaim := { program := "ytjbbomokgpoilaagreatdoor", sum := "e6895973648298e51b33d3227f5283201425b604e64a3ee44cf02fec59cd6f2a", func := "heddle/heddlelaw09.MemoryFull", spec := "memoryFull", inPlace := ["slices.overlaps[heddle/api.Run]"], unfollowed := true, recurses := true, named := ["heddle/classes.slots"], apart := false, laid := [("heddle/classes.slots", laid_heddle_classes_slots)] }
def MemoryFullSaid : Prop := memoryFullRow.holds Tryz.pinned (OpenSpec.ofChange memoryFullSpec)

/-- ITS FALSE NEIGHBOUR: 'it returns false'. Refute it at one input. -/
def memoryFullWrong : ChangeSpec := { name := "memoryFull", fn := fun _ => fun
  | [d1, d2, d3, d4, d5] => { results := [.lit (.bool false)], args := [d1, d2, d3, d4, d5] }
  | _ => none }
def MemoryFullWrongFalsely : Prop := memoryFullRow.holds Tryz.pinned (OpenSpec.ofChange memoryFullWrong)

/- THE SECOND FORM. 'bulk': how many values and letters a reading holds, each counted each time it is reached (what is shared counts as often as it is met; a slice's spare places count too). A statement '..UptoSaid' is the law's where the arguments, and the package variables that the reading takes, are together of bulk at most 1048576: NARROWER than '..Said'. Prove '..Said' where nothing that the law and all that it calls make is longer than what came in: it says more and counts as full. Else prove '..UptoSaid'. A law counts once. -/
mutual
def uptoBulk {H : Type} : DataW H → Nat
  | .lit (.string bytes) => bytes.length + 1
  | .lit _ => 1
  | .nil => 1
  | .ptr d => uptoBulk d + 1
  | .slice elems spare => uptoBulkAll elems + uptoBulkAll spare + 1
  | .agg parts => uptoBulkAll parts + 1
  | .iface _ d => uptoBulk d + 1
  | .map entries => uptoBulkEntries entries + 1
  | .held _ => 1
def uptoBulkAll {H : Type} : List (DataW H) → Nat
  | [] => 0
  | d :: r => uptoBulk d + uptoBulkAll r
def uptoBulkEntries {H : Type} : List (Lit × DataW H) → Nat
  | [] => 0
  | x :: r => uptoBulkEntry x + uptoBulkEntries r
def uptoBulkEntry {H : Type} : Lit × DataW H → Nat
  | (.string bytes, d) => bytes.length + uptoBulk d + 1
  | (_, d) => uptoBulk d + 1
 end
def uptoSmall : (H : Type) → List (DataW H) → Bool := fun _ ds => decide (uptoBulkAll ds ≤ 1048576)
def OpenSpec.upto (s : _root_.Go.ChangeSpec) : _root_.Go.OpenSpec := { _root_.Go.OpenSpec.ofChange s with cond := some uptoSmall }

/-- 'heddlelaw09.MemoryNil', WHERE WHAT IT READS IS OF BULK AT MOST 1048576: true; the input reads as it did. -/
def memoryNilUptoRow : OpenClaim := { program := "ytjbbomokgpoilaagreatdoor", sum := "e6895973648298e51b33d3227f5283201425b604e64a3ee44cf02fec59cd6f2a", func := "heddle/heddlelaw09.MemoryNil", spec := "memoryNil", inPlace := ["slices.overlaps[heddle/api.Run]"], unfollowed := true, recurses := true, named := ["heddle/classes.slots"], apart := false, laid := [("heddle/classes.slots", laid_heddle_classes_slots)], narrowed := true }
def MemoryNilUptoSaid : Prop := memoryNilUptoRow.holds Tryz.pinned (OpenSpec.upto memoryNilSpec)

/-- 'heddlelaw09.MemoryWrites', WHERE WHAT IT READS IS OF BULK AT MOST 1048576: true; the input reads as it did. -/
def memoryWritesUptoRow : OpenClaim := { program := "ytjbbomokgpoilaagreatdoor", sum := "e6895973648298e51b33d3227f5283201425b604e64a3ee44cf02fec59cd6f2a", func := "heddle/heddlelaw09.MemoryWrites", spec := "memoryWrites", inPlace := ["slices.overlaps[heddle/api.Run]"], unfollowed := true, recurses := true, named := ["heddle/classes.slots"], apart := false, laid := [("heddle/classes.slots", laid_heddle_classes_slots)], narrowed := true }
def MemoryWritesUptoSaid : Prop := memoryWritesUptoRow.holds Tryz.pinned (OpenSpec.upto memoryWritesSpec)

/-- 'heddlelaw09.MemoryCuts', WHERE WHAT IT READS IS OF BULK AT MOST 1048576: true; the input reads as it did. -/
def memoryCutsUptoRow : OpenClaim := { program := "ytjbbomokgpoilaagreatdoor", sum := "e6895973648298e51b33d3227f5283201425b604e64a3ee44cf02fec59cd6f2a", func := "heddle/heddlelaw09.MemoryCuts", spec := "memoryCuts", inPlace := ["slices.overlaps[heddle/api.Run]"], unfollowed := true, recurses := true, named := ["heddle/classes.slots"], apart := false, laid := [("heddle/classes.slots", laid_heddle_classes_slots)], narrowed := true }
def MemoryCutsUptoSaid : Prop := memoryCutsUptoRow.holds Tryz.pinned (OpenSpec.upto memoryCutsSpec)

/-- 'heddlelaw09.MemoryView', WHERE WHAT IT READS IS OF BULK AT MOST 1048576: true; the input reads as it did. -/
def memoryViewUptoRow : OpenClaim := { program := "ytjbbomokgpoilaagreatdoor", sum := "e6895973648298e51b33d3227f5283201425b604e64a3ee44cf02fec59cd6f2a", func := "heddle/heddlelaw09.MemoryView", spec := "memoryView", inPlace := ["slices.overlaps[heddle/api.Run]"], unfollowed := true, recurses := true, named := ["heddle/classes.slots"], apart := false, laid := [("heddle/classes.slots", laid_heddle_classes_slots)], narrowed := true }
def MemoryViewUptoSaid : Prop := memoryViewUptoRow.holds Tryz.pinned (OpenSpec.upto memoryViewSpec)

/-- 'heddlelaw09.MemoryCollects', WHERE WHAT IT READS IS OF BULK AT MOST 1048576: true; the input reads as it did. -/
def memoryCollectsUptoRow : OpenClaim := { program := "ytjbbomokgpoilaagreatdoor", sum := "e6895973648298e51b33d3227f5283201425b604e64a3ee44cf02fec59cd6f2a", func := "heddle/heddlelaw09.MemoryCollects", spec := "memoryCollects", inPlace := ["slices.overlaps[heddle/api.Run]"], unfollowed := true, recurses := true, named := ["heddle/classes.slots"], apart := false, laid := [("heddle/classes.slots", laid_heddle_classes_slots)], narrowed := true }
def MemoryCollectsUptoSaid : Prop := memoryCollectsUptoRow.holds Tryz.pinned (OpenSpec.upto memoryCollectsSpec)

/-- 'heddlelaw09.MemoryFull', WHERE WHAT IT READS IS OF BULK AT MOST 1048576: true; the input reads as it did. -/
def memoryFullUptoRow : OpenClaim := { program := "ytjbbomokgpoilaagreatdoor", sum := "e6895973648298e51b33d3227f5283201425b604e64a3ee44cf02fec59cd6f2a", func := "heddle/heddlelaw09.MemoryFull", spec := "memoryFull", inPlace := ["slices.overlaps[heddle/api.Run]"], unfollowed := true, recurses := true, named := ["heddle/classes.slots"], apart := false, laid := [("heddle/classes.slots", laid_heddle_classes_slots)], narrowed := true }
def MemoryFullUptoSaid : Prop := memoryFullUptoRow.holds Tryz.pinned (OpenSpec.upto memoryFullSpec)

end Rows
end Go.Proofs.YtjbbomokgpoilaaGreatDoor
