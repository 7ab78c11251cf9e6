/-
  NARROWER THAN 'FOR EVERY INPUT', by the rows' own cells (each row's printed sentence says how): OpsBoxes: loops, laid · OpsBack: loops, laid · OpsKeeps: loops, laid.
  DERIVED. THE GIVEN ROWS OF THIS SEAT. 3 by the template 'for every input the law returns true; each argument reads behind the call as it read before'; 0 by the template 'total and deterministic' (their statements: YtlnncapokdoilaaDoorTotals.lean).
  GIVEN WITH THE SEED: the statements are not yours to turn. If you find one false, say at which input.
  Laid BY PROGRAM, IN A SANDBOX (cutbox-rows.mjs): the forced cells as the released guide's own fill.sh prints them over the translation db56d3caf0af56a9… (all of the seat's roots in one cut). By AI agents, Wed Nov 11 2026. No macro, syntax, notation, axiom, sorry.
-/
import Derived.Test.YtlnncapokdoilaaDoorChecked
import GoSem.Claim
import GoSem.ClaimJoined
import GoSem.ClaimMapViews
import Derived.JoinedTies
import Derived.KernelRfl
namespace Go.Proofs.YtlnncapokdoilaaDoor
/- THE CELL 'sum', in the pinned program and in every row, IS THE sha256 OF THE DUMP (.gsa) THAT YtlnncapokdoilaaDoorProg.lean LOADS. Nothing in Lean hashes anything: it is a label: what it is worth is what the hold of that sum in a sandbox is worth. -/
noncomputable def Tryd.pinned : Pinned := { name := "ytlnncapokdoilaadoor", sum := "db56d3caf0af56a949f8c83358cb2a5d5f87bae88c6fb5a3151e1d620ac9c87f", checked := Tryd.checked }
namespace Rows
def none {H : Type} : Left H := { results := [], args := [] }

/- WHAT THE LISTED PACKAGE-LEVEL VARIABLES READ AS WHEN THE CALL BEGINS. Each datum BY PROGRAM (the guide's laid-datum.mjs) off the statement by which the dump's own 'gosem.cut.vars' lays the variable. In a bare row this is a premise. The card (YtlnncapokdoilaaDoorCards.lean) ties it to the program's text. -/
def laid_heddle_types_partsOf {H : Type} : DataW H := .agg [.lit (.int .i64 0), .lit (.int .i64 0), .lit (.int .i64 0), .lit (.int .i64 0), .lit (.int .i64 0), .lit (.int .i64 2), .lit (.int .i64 3), .lit (.int .i64 0), .lit (.int .i64 8), .lit (.int .i64 6), .lit (.int .i64 2)]

/-- 'heddlelaw11.OpsBoxes': WHATEVER THE INPUT: true; the input reads as it did. -/
def opsBoxesSpec : ChangeSpec := { name := "opsBoxes", fn := fun _ => fun
  | [d1, d2] => { results := [.lit (.bool true)], args := [d1, d2] }
  | _ => none }
def opsBoxesRow : OpenClaim := { program := "ytlnncapokdoilaadoor", sum := "db56d3caf0af56a949f8c83358cb2a5d5f87bae88c6fb5a3151e1d620ac9c87f", func := "heddle/heddlelaw11.OpsBoxes", spec := "opsBoxes", inPlace := ["math.Float64frombits", "math.Float64bits"], unfollowed := true, recurses := true, named := ["heddle/types.partsOf"], loops := true, apart := false, laid := [("heddle/types.partsOf", laid_heddle_types_partsOf)] }
def OpsBoxesSaid : Prop := opsBoxesRow.holds Tryd.pinned (OpenSpec.ofChange opsBoxesSpec)

/-- ITS FALSE NEIGHBOUR: 'it returns false'. Refute it at one input. -/
def opsBoxesWrong : ChangeSpec := { name := "opsBoxes", fn := fun _ => fun
  | [d1, d2] => { results := [.lit (.bool false)], args := [d1, d2] }
  | _ => none }
def OpsBoxesWrongFalsely : Prop := opsBoxesRow.holds Tryd.pinned (OpenSpec.ofChange opsBoxesWrong)

/-- 'heddlelaw11.OpsBack': WHATEVER THE INPUT: true; the input reads as it did. -/
def opsBackSpec : ChangeSpec := { name := "opsBack", fn := fun _ => fun
  | [d1, d2] => { results := [.lit (.bool true)], args := [d1, d2] }
  | _ => none }
def opsBackRow : OpenClaim := { program := "ytlnncapokdoilaadoor", sum := "db56d3caf0af56a949f8c83358cb2a5d5f87bae88c6fb5a3151e1d620ac9c87f", func := "heddle/heddlelaw11.OpsBack", spec := "opsBack", inPlace := ["math.Float64frombits", "math.Float64bits"], unfollowed := true, recurses := true, named := ["heddle/types.partsOf"], loops := true, apart := false, laid := [("heddle/types.partsOf", laid_heddle_types_partsOf)] }
def OpsBackSaid : Prop := opsBackRow.holds Tryd.pinned (OpenSpec.ofChange opsBackSpec)

/-- ITS FALSE NEIGHBOUR: 'it returns false'. Refute it at one input. -/
def opsBackWrong : ChangeSpec := { name := "opsBack", fn := fun _ => fun
  | [d1, d2] => { results := [.lit (.bool false)], args := [d1, d2] }
  | _ => none }
def OpsBackWrongFalsely : Prop := opsBackRow.holds Tryd.pinned (OpenSpec.ofChange opsBackWrong)

/-- 'heddlelaw11.OpsKeeps': WHATEVER THE INPUT: true; the input reads as it did. -/
def opsKeepsSpec : ChangeSpec := { name := "opsKeeps", fn := fun _ => fun
  | [d] => { results := [.lit (.bool true)], args := [d] }
  | _ => none }
def opsKeepsRow : OpenClaim := { program := "ytlnncapokdoilaadoor", sum := "db56d3caf0af56a949f8c83358cb2a5d5f87bae88c6fb5a3151e1d620ac9c87f", func := "heddle/heddlelaw11.OpsKeeps", spec := "opsKeeps", inPlace := ["math.Float64frombits", "math.Float64bits"], unfollowed := true, recurses := true, named := ["heddle/types.partsOf"], loops := true, apart := false, laid := [("heddle/types.partsOf", laid_heddle_types_partsOf)] }
def OpsKeepsSaid : Prop := opsKeepsRow.holds Tryd.pinned (OpenSpec.ofChange opsKeepsSpec)

/-- ITS FALSE NEIGHBOUR: 'it returns false'. Refute it at one input. -/
def opsKeepsWrong : ChangeSpec := { name := "opsKeeps", fn := fun _ => fun
  | [d] => { results := [.lit (.bool false)], args := [d] }
  | _ => none }
def OpsKeepsWrongFalsely : Prop := opsKeepsRow.holds Tryd.pinned (OpenSpec.ofChange opsKeepsWrong)

/- THE SECOND FORM. 'bulk': how many values and letters a reading holds, each counted each time it is reached (what is shared counts as often as it is met; a slice's spare places count too). A statement '..UptoSaid' is the law's where the arguments, and the package variables that the reading takes, are together of bulk at most 1048576: NARROWER than '..Said'. Prove '..Said' where nothing that the law and all that it calls make is longer than what came in: it says more and counts as full. Else prove '..UptoSaid'. A law counts once. -/
mutual
def uptoBulk {H : Type} : DataW H → Nat
  | .lit (.string bytes) => bytes.length + 1
  | .lit _ => 1
  | .nil => 1
  | .ptr d => uptoBulk d + 1
  | .slice elems spare => uptoBulkAll elems + uptoBulkAll spare + 1
  | .agg parts => uptoBulkAll parts + 1
  | .iface _ d => uptoBulk d + 1
  | .map entries => uptoBulkEntries entries + 1
  | .held _ => 1
def uptoBulkAll {H : Type} : List (DataW H) → Nat
  | [] => 0
  | d :: r => uptoBulk d + uptoBulkAll r
def uptoBulkEntries {H : Type} : List (Lit × DataW H) → Nat
  | [] => 0
  | x :: r => uptoBulkEntry x + uptoBulkEntries r
def uptoBulkEntry {H : Type} : Lit × DataW H → Nat
  | (.string bytes, d) => bytes.length + uptoBulk d + 1
  | (_, d) => uptoBulk d + 1
 end
def uptoSmall : (H : Type) → List (DataW H) → Bool := fun _ ds => decide (uptoBulkAll ds ≤ 1048576)
def OpenSpec.upto (s : _root_.Go.ChangeSpec) : _root_.Go.OpenSpec := { _root_.Go.OpenSpec.ofChange s with cond := some uptoSmall }

/-- 'heddlelaw11.OpsBoxes', WHERE WHAT IT READS IS OF BULK AT MOST 1048576: true; the input reads as it did. -/
def opsBoxesUptoRow : OpenClaim := { program := "ytlnncapokdoilaadoor", sum := "db56d3caf0af56a949f8c83358cb2a5d5f87bae88c6fb5a3151e1d620ac9c87f", func := "heddle/heddlelaw11.OpsBoxes", spec := "opsBoxes", inPlace := ["math.Float64frombits", "math.Float64bits"], unfollowed := true, recurses := true, named := ["heddle/types.partsOf"], loops := true, apart := false, laid := [("heddle/types.partsOf", laid_heddle_types_partsOf)], narrowed := true }
def OpsBoxesUptoSaid : Prop := opsBoxesUptoRow.holds Tryd.pinned (OpenSpec.upto opsBoxesSpec)

/-- 'heddlelaw11.OpsBack', WHERE WHAT IT READS IS OF BULK AT MOST 1048576: true; the input reads as it did. -/
def opsBackUptoRow : OpenClaim := { program := "ytlnncapokdoilaadoor", sum := "db56d3caf0af56a949f8c83358cb2a5d5f87bae88c6fb5a3151e1d620ac9c87f", func := "heddle/heddlelaw11.OpsBack", spec := "opsBack", inPlace := ["math.Float64frombits", "math.Float64bits"], unfollowed := true, recurses := true, named := ["heddle/types.partsOf"], loops := true, apart := false, laid := [("heddle/types.partsOf", laid_heddle_types_partsOf)], narrowed := true }
def OpsBackUptoSaid : Prop := opsBackUptoRow.holds Tryd.pinned (OpenSpec.upto opsBackSpec)

/-- 'heddlelaw11.OpsKeeps', WHERE WHAT IT READS IS OF BULK AT MOST 1048576: true; the input reads as it did. -/
def opsKeepsUptoRow : OpenClaim := { program := "ytlnncapokdoilaadoor", sum := "db56d3caf0af56a949f8c83358cb2a5d5f87bae88c6fb5a3151e1d620ac9c87f", func := "heddle/heddlelaw11.OpsKeeps", spec := "opsKeeps", inPlace := ["math.Float64frombits", "math.Float64bits"], unfollowed := true, recurses := true, named := ["heddle/types.partsOf"], loops := true, apart := false, laid := [("heddle/types.partsOf", laid_heddle_types_partsOf)], narrowed := true }
def OpsKeepsUptoSaid : Prop := opsKeepsUptoRow.holds Tryd.pinned (OpenSpec.upto opsKeepsSpec)

end Rows
end Go.Proofs.YtlnncapokdoilaaDoor
