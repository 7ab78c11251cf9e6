/-
  NARROWER THAN 'FOR EVERY INPUT', by the rows' own cells (each row's printed sentence says how): ClassesPlays: laid · ClassesLeast: laid · ClassesRise: laid.
  DERIVED. THE GIVEN ROWS OF THIS SEAT. 3 by the template 'for every input the law returns true; each argument reads behind the call as it read before'; 0 by the template 'total and deterministic' (their statements: YtmheeibkpgfeeaaDoorTotals.lean).
  GIVEN WITH THE SEED: the statements are not yours to turn. If you find one false, say at which input.
  Laid BY PROGRAM, IN A SANDBOX (cutbox-rows.mjs): the forced cells as the released guide's own fill.sh prints them over the translation dd773b891d3faeda… (all of the seat's roots in one cut). By AI agents, Wed Nov 11 2026. No macro, syntax, notation, axiom, sorry.
-/
import Derived.Test.YtmheeibkpgfeeaaDoorChecked
import GoSem.Claim
import GoSem.ClaimJoined
import GoSem.ClaimMapViews
import Derived.JoinedTies
import Derived.KernelRfl
namespace Go.Proofs.YtmheeibkpgfeeaaDoor
/- THE CELL 'sum', in the pinned program and in every row, IS THE sha256 OF THE DUMP (.gsa) THAT YtmheeibkpgfeeaaDoorProg.lean LOADS. Nothing in Lean hashes anything: it is a label: what it is worth is what the hold of that sum in a sandbox is worth. -/
noncomputable def Tryd.pinned : Pinned := { name := "ytmheeibkpgfeeaadoor", sum := "dd773b891d3faedab2c2bdc10b70b8cca5415a60692e5dcfc7d5966f18a82fe7", checked := Tryd.checked }
namespace Rows
def none {H : Type} : Left H := { results := [], args := [] }

/- WHAT THE LISTED PACKAGE-LEVEL VARIABLES READ AS WHEN THE CALL BEGINS. Each datum BY PROGRAM (the guide's laid-datum.mjs) off the statement by which the dump's own 'gosem.cut.vars' lays the variable. In a bare row this is a premise. The card (YtmheeibkpgfeeaaDoorCards.lean) ties it to the program's text. -/
def laid_heddle_classes_slots {H : Type} : DataW H := .agg [.lit (.int .i64 8), .lit (.int .i64 16), .lit (.int .i64 24), .lit (.int .i64 32), .lit (.int .i64 48), .lit (.int .i64 64), .lit (.int .i64 96), .lit (.int .i64 128)]

/-- 'heddlelaw05.ClassesPlays': WHATEVER THE INPUT: true; the input reads as it did. -/
def classesPlaysSpec : ChangeSpec := { name := "classesPlays", fn := fun _ => fun
  | [d1, d2] => { results := [.lit (.bool true)], args := [d1, d2] }
  | _ => none }
def classesPlaysRow : OpenClaim := { program := "ytmheeibkpgfeeaadoor", sum := "dd773b891d3faedab2c2bdc10b70b8cca5415a60692e5dcfc7d5966f18a82fe7", func := "heddle/heddlelaw05.ClassesPlays", spec := "classesPlays", named := ["heddle/classes.slots"], apart := false, laid := [("heddle/classes.slots", laid_heddle_classes_slots)] }
def ClassesPlaysSaid : Prop := classesPlaysRow.holds Tryd.pinned (OpenSpec.ofChange classesPlaysSpec)

/-- ITS FALSE NEIGHBOUR: 'it returns false'. Refute it at one input. -/
def classesPlaysWrong : ChangeSpec := { name := "classesPlays", fn := fun _ => fun
  | [d1, d2] => { results := [.lit (.bool false)], args := [d1, d2] }
  | _ => none }
def ClassesPlaysWrongFalsely : Prop := classesPlaysRow.holds Tryd.pinned (OpenSpec.ofChange classesPlaysWrong)

/-- 'heddlelaw05.ClassesLeast': WHATEVER THE INPUT: true; the input reads as it did. -/
def classesLeastSpec : ChangeSpec := { name := "classesLeast", fn := fun _ => fun
  | [d] => { results := [.lit (.bool true)], args := [d] }
  | _ => none }
def classesLeastRow : OpenClaim := { program := "ytmheeibkpgfeeaadoor", sum := "dd773b891d3faedab2c2bdc10b70b8cca5415a60692e5dcfc7d5966f18a82fe7", func := "heddle/heddlelaw05.ClassesLeast", spec := "classesLeast", named := ["heddle/classes.slots"], apart := false, laid := [("heddle/classes.slots", laid_heddle_classes_slots)] }
def ClassesLeastSaid : Prop := classesLeastRow.holds Tryd.pinned (OpenSpec.ofChange classesLeastSpec)

/-- ITS FALSE NEIGHBOUR: 'it returns false'. Refute it at one input. -/
def classesLeastWrong : ChangeSpec := { name := "classesLeast", fn := fun _ => fun
  | [d] => { results := [.lit (.bool false)], args := [d] }
  | _ => none }
def ClassesLeastWrongFalsely : Prop := classesLeastRow.holds Tryd.pinned (OpenSpec.ofChange classesLeastWrong)

/-- 'heddlelaw05.ClassesRise': WHATEVER THE INPUT: true; the input reads as it did. -/
def classesRiseSpec : ChangeSpec := { name := "classesRise", fn := fun _ => fun
  | [d1, d2] => { results := [.lit (.bool true)], args := [d1, d2] }
  | _ => none }
def classesRiseRow : OpenClaim := { program := "ytmheeibkpgfeeaadoor", sum := "dd773b891d3faedab2c2bdc10b70b8cca5415a60692e5dcfc7d5966f18a82fe7", func := "heddle/heddlelaw05.ClassesRise", spec := "classesRise", named := ["heddle/classes.slots"], apart := false, laid := [("heddle/classes.slots", laid_heddle_classes_slots)] }
def ClassesRiseSaid : Prop := classesRiseRow.holds Tryd.pinned (OpenSpec.ofChange classesRiseSpec)

/-- ITS FALSE NEIGHBOUR: 'it returns false'. Refute it at one input. -/
def classesRiseWrong : ChangeSpec := { name := "classesRise", fn := fun _ => fun
  | [d1, d2] => { results := [.lit (.bool false)], args := [d1, d2] }
  | _ => none }
def ClassesRiseWrongFalsely : Prop := classesRiseRow.holds Tryd.pinned (OpenSpec.ofChange classesRiseWrong)

/- THE SECOND FORM. 'bulk': how many values and letters a reading holds, each counted each time it is reached (what is shared counts as often as it is met; a slice's spare places count too). A statement '..UptoSaid' is the law's where the arguments, and the package variables that the reading takes, are together of bulk at most 1048576: NARROWER than '..Said'. Prove '..Said' where nothing that the law and all that it calls make is longer than what came in: it says more and counts as full. Else prove '..UptoSaid'. A law counts once. -/
mutual
def uptoBulk {H : Type} : DataW H → Nat
  | .lit (.string bytes) => bytes.length + 1
  | .lit _ => 1
  | .nil => 1
  | .ptr d => uptoBulk d + 1
  | .slice elems spare => uptoBulkAll elems + uptoBulkAll spare + 1
  | .agg parts => uptoBulkAll parts + 1
  | .iface _ d => uptoBulk d + 1
  | .map entries => uptoBulkEntries entries + 1
  | .held _ => 1
def uptoBulkAll {H : Type} : List (DataW H) → Nat
  | [] => 0
  | d :: r => uptoBulk d + uptoBulkAll r
def uptoBulkEntries {H : Type} : List (Lit × DataW H) → Nat
  | [] => 0
  | x :: r => uptoBulkEntry x + uptoBulkEntries r
def uptoBulkEntry {H : Type} : Lit × DataW H → Nat
  | (.string bytes, d) => bytes.length + uptoBulk d + 1
  | (_, d) => uptoBulk d + 1
 end
def uptoSmall : (H : Type) → List (DataW H) → Bool := fun _ ds => decide (uptoBulkAll ds ≤ 1048576)
def OpenSpec.upto (s : _root_.Go.ChangeSpec) : _root_.Go.OpenSpec := { _root_.Go.OpenSpec.ofChange s with cond := some uptoSmall }

/-- 'heddlelaw05.ClassesPlays', WHERE WHAT IT READS IS OF BULK AT MOST 1048576: true; the input reads as it did. -/
def classesPlaysUptoRow : OpenClaim := { program := "ytmheeibkpgfeeaadoor", sum := "dd773b891d3faedab2c2bdc10b70b8cca5415a60692e5dcfc7d5966f18a82fe7", func := "heddle/heddlelaw05.ClassesPlays", spec := "classesPlays", named := ["heddle/classes.slots"], apart := false, laid := [("heddle/classes.slots", laid_heddle_classes_slots)], narrowed := true }
def ClassesPlaysUptoSaid : Prop := classesPlaysUptoRow.holds Tryd.pinned (OpenSpec.upto classesPlaysSpec)

/-- 'heddlelaw05.ClassesLeast', WHERE WHAT IT READS IS OF BULK AT MOST 1048576: true; the input reads as it did. -/
def classesLeastUptoRow : OpenClaim := { program := "ytmheeibkpgfeeaadoor", sum := "dd773b891d3faedab2c2bdc10b70b8cca5415a60692e5dcfc7d5966f18a82fe7", func := "heddle/heddlelaw05.ClassesLeast", spec := "classesLeast", named := ["heddle/classes.slots"], apart := false, laid := [("heddle/classes.slots", laid_heddle_classes_slots)], narrowed := true }
def ClassesLeastUptoSaid : Prop := classesLeastUptoRow.holds Tryd.pinned (OpenSpec.upto classesLeastSpec)

/-- 'heddlelaw05.ClassesRise', WHERE WHAT IT READS IS OF BULK AT MOST 1048576: true; the input reads as it did. -/
def classesRiseUptoRow : OpenClaim := { program := "ytmheeibkpgfeeaadoor", sum := "dd773b891d3faedab2c2bdc10b70b8cca5415a60692e5dcfc7d5966f18a82fe7", func := "heddle/heddlelaw05.ClassesRise", spec := "classesRise", named := ["heddle/classes.slots"], apart := false, laid := [("heddle/classes.slots", laid_heddle_classes_slots)], narrowed := true }
def ClassesRiseUptoSaid : Prop := classesRiseUptoRow.holds Tryd.pinned (OpenSpec.upto classesRiseSpec)

end Rows
end Go.Proofs.YtmheeibkpgfeeaaDoor
