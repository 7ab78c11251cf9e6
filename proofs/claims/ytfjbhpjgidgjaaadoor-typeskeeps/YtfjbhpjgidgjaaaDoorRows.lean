/-
  NARROWER THAN 'FOR EVERY INPUT', by the rows' own cells (each row's printed sentence says how): TypesPlays: laid · TypesReads: laid · TypesBack: laid · TypesParts: laid · TypesMore: laid · TypesKeeps: laid.
  DERIVED. THE GIVEN ROWS OF THIS SEAT. 6 by the template 'for every input the law returns true; each argument reads behind the call as it read before'; 0 by the template 'total and deterministic' (their statements: YtfjbhpjgidgjaaaDoorTotals.lean).
  GIVEN WITH THE SEED: the statements are not yours to turn. If you find one false, say at which input.
  Laid BY PROGRAM, IN A SANDBOX (cutbox-rows.mjs): the forced cells as the released guide's own fill.sh prints them over the translation 0069c9e2cbea4287… (all of the seat's roots in one cut). By AI agents, Wed Nov 11 2026. No macro, syntax, notation, axiom, sorry.
-/
import Derived.Test.YtfjbhpjgidgjaaaDoorChecked
import GoSem.Claim
import GoSem.ClaimJoined
import GoSem.ClaimMapViews
import Derived.JoinedTies
import Derived.KernelRfl
namespace Go.Proofs.YtfjbhpjgidgjaaaDoor
/- THE CELL 'sum', in the pinned program and in every row, IS THE sha256 OF THE DUMP (.gsa) THAT YtfjbhpjgidgjaaaDoorProg.lean LOADS. Nothing in Lean hashes anything: it is a label: what it is worth is what the hold of that sum in a sandbox is worth. -/
noncomputable def Tryd.pinned : Pinned := { name := "ytfjbhpjgidgjaaadoor", sum := "0069c9e2cbea42870cfa9a9d904fc72ec0874ccf1d261e9b5632ef65a55ca2d8", checked := Tryd.checked }
namespace Rows
def none {H : Type} : Left H := { results := [], args := [] }

/- WHAT THE LISTED PACKAGE-LEVEL VARIABLES READ AS WHEN THE CALL BEGINS. Each datum BY PROGRAM (the guide's laid-datum.mjs) off the statement by which the dump's own 'gosem.cut.vars' lays the variable. In a bare row this is a premise. The card (YtfjbhpjgidgjaaaDoorCards.lean) ties it to the program's text. -/
def laid_heddle_types_partsOf {H : Type} : DataW H := .agg [.lit (.int .i64 0), .lit (.int .i64 0), .lit (.int .i64 0), .lit (.int .i64 0), .lit (.int .i64 0), .lit (.int .i64 2), .lit (.int .i64 3), .lit (.int .i64 0), .lit (.int .i64 8), .lit (.int .i64 6), .lit (.int .i64 2)]

/-- 'heddlelaw02.TypesPlays': WHATEVER THE INPUT: true; the input reads as it did. -/
def typesPlaysSpec : ChangeSpec := { name := "typesPlays", fn := fun _ => fun
  | [d1, d2] => { results := [.lit (.bool true)], args := [d1, d2] }
  | _ => none }
def typesPlaysRow : OpenClaim := { program := "ytfjbhpjgidgjaaadoor", sum := "0069c9e2cbea42870cfa9a9d904fc72ec0874ccf1d261e9b5632ef65a55ca2d8", func := "heddle/heddlelaw02.TypesPlays", spec := "typesPlays", recurses := true, named := ["heddle/types.partsOf"], apart := false, laid := [("heddle/types.partsOf", laid_heddle_types_partsOf)] }
def TypesPlaysSaid : Prop := typesPlaysRow.holds Tryd.pinned (OpenSpec.ofChange typesPlaysSpec)

/-- ITS FALSE NEIGHBOUR: 'it returns false'. Refute it at one input. -/
def typesPlaysWrong : ChangeSpec := { name := "typesPlays", fn := fun _ => fun
  | [d1, d2] => { results := [.lit (.bool false)], args := [d1, d2] }
  | _ => none }
def TypesPlaysWrongFalsely : Prop := typesPlaysRow.holds Tryd.pinned (OpenSpec.ofChange typesPlaysWrong)

/-- 'heddlelaw02.TypesReads': WHATEVER THE INPUT: true; the input reads as it did. -/
def typesReadsSpec : ChangeSpec := { name := "typesReads", fn := fun _ => fun
  | [d] => { results := [.lit (.bool true)], args := [d] }
  | _ => none }
def typesReadsRow : OpenClaim := { program := "ytfjbhpjgidgjaaadoor", sum := "0069c9e2cbea42870cfa9a9d904fc72ec0874ccf1d261e9b5632ef65a55ca2d8", func := "heddle/heddlelaw02.TypesReads", spec := "typesReads", recurses := true, named := ["heddle/types.partsOf"], apart := false, laid := [("heddle/types.partsOf", laid_heddle_types_partsOf)] }
def TypesReadsSaid : Prop := typesReadsRow.holds Tryd.pinned (OpenSpec.ofChange typesReadsSpec)

/-- ITS FALSE NEIGHBOUR: 'it returns false'. Refute it at one input. -/
def typesReadsWrong : ChangeSpec := { name := "typesReads", fn := fun _ => fun
  | [d] => { results := [.lit (.bool false)], args := [d] }
  | _ => none }
def TypesReadsWrongFalsely : Prop := typesReadsRow.holds Tryd.pinned (OpenSpec.ofChange typesReadsWrong)

/-- 'heddlelaw02.TypesBack': WHATEVER THE INPUT: true; the input reads as it did. -/
def typesBackSpec : ChangeSpec := { name := "typesBack", fn := fun _ => fun
  | [d1, d2] => { results := [.lit (.bool true)], args := [d1, d2] }
  | _ => none }
def typesBackRow : OpenClaim := { program := "ytfjbhpjgidgjaaadoor", sum := "0069c9e2cbea42870cfa9a9d904fc72ec0874ccf1d261e9b5632ef65a55ca2d8", func := "heddle/heddlelaw02.TypesBack", spec := "typesBack", recurses := true, named := ["heddle/types.partsOf"], apart := false, laid := [("heddle/types.partsOf", laid_heddle_types_partsOf)] }
def TypesBackSaid : Prop := typesBackRow.holds Tryd.pinned (OpenSpec.ofChange typesBackSpec)

/-- ITS FALSE NEIGHBOUR: 'it returns false'. Refute it at one input. -/
def typesBackWrong : ChangeSpec := { name := "typesBack", fn := fun _ => fun
  | [d1, d2] => { results := [.lit (.bool false)], args := [d1, d2] }
  | _ => none }
def TypesBackWrongFalsely : Prop := typesBackRow.holds Tryd.pinned (OpenSpec.ofChange typesBackWrong)

/-- 'heddlelaw02.TypesParts': WHATEVER THE INPUT: true; the input reads as it did. -/
def typesPartsSpec : ChangeSpec := { name := "typesParts", fn := fun _ => fun
  | [d1, d2] => { results := [.lit (.bool true)], args := [d1, d2] }
  | _ => none }
def typesPartsRow : OpenClaim := { program := "ytfjbhpjgidgjaaadoor", sum := "0069c9e2cbea42870cfa9a9d904fc72ec0874ccf1d261e9b5632ef65a55ca2d8", func := "heddle/heddlelaw02.TypesParts", spec := "typesParts", recurses := true, named := ["heddle/types.partsOf"], apart := false, laid := [("heddle/types.partsOf", laid_heddle_types_partsOf)] }
def TypesPartsSaid : Prop := typesPartsRow.holds Tryd.pinned (OpenSpec.ofChange typesPartsSpec)

/-- ITS FALSE NEIGHBOUR: 'it returns false'. Refute it at one input. -/
def typesPartsWrong : ChangeSpec := { name := "typesParts", fn := fun _ => fun
  | [d1, d2] => { results := [.lit (.bool false)], args := [d1, d2] }
  | _ => none }
def TypesPartsWrongFalsely : Prop := typesPartsRow.holds Tryd.pinned (OpenSpec.ofChange typesPartsWrong)

/-- 'heddlelaw02.TypesMore': WHATEVER THE INPUT: true; the input reads as it did. -/
def typesMoreSpec : ChangeSpec := { name := "typesMore", fn := fun _ => fun
  | [d1, d2, d3] => { results := [.lit (.bool true)], args := [d1, d2, d3] }
  | _ => none }
def typesMoreRow : OpenClaim := { program := "ytfjbhpjgidgjaaadoor", sum := "0069c9e2cbea42870cfa9a9d904fc72ec0874ccf1d261e9b5632ef65a55ca2d8", func := "heddle/heddlelaw02.TypesMore", spec := "typesMore", recurses := true, named := ["heddle/types.partsOf"], apart := false, laid := [("heddle/types.partsOf", laid_heddle_types_partsOf)] }
def TypesMoreSaid : Prop := typesMoreRow.holds Tryd.pinned (OpenSpec.ofChange typesMoreSpec)

/-- ITS FALSE NEIGHBOUR: 'it returns false'. Refute it at one input. -/
def typesMoreWrong : ChangeSpec := { name := "typesMore", fn := fun _ => fun
  | [d1, d2, d3] => { results := [.lit (.bool false)], args := [d1, d2, d3] }
  | _ => none }
def TypesMoreWrongFalsely : Prop := typesMoreRow.holds Tryd.pinned (OpenSpec.ofChange typesMoreWrong)

/-- 'heddlelaw02.TypesKeeps': WHATEVER THE INPUT: true; the input reads as it did. -/
def typesKeepsSpec : ChangeSpec := { name := "typesKeeps", fn := fun _ => fun
  | [d1, d2, d3] => { results := [.lit (.bool true)], args := [d1, d2, d3] }
  | _ => none }
def typesKeepsRow : OpenClaim := { program := "ytfjbhpjgidgjaaadoor", sum := "0069c9e2cbea42870cfa9a9d904fc72ec0874ccf1d261e9b5632ef65a55ca2d8", func := "heddle/heddlelaw02.TypesKeeps", spec := "typesKeeps", recurses := true, named := ["heddle/types.partsOf"], apart := false, laid := [("heddle/types.partsOf", laid_heddle_types_partsOf)] }
def TypesKeepsSaid : Prop := typesKeepsRow.holds Tryd.pinned (OpenSpec.ofChange typesKeepsSpec)

/-- ITS FALSE NEIGHBOUR: 'it returns false'. Refute it at one input. -/
def typesKeepsWrong : ChangeSpec := { name := "typesKeeps", fn := fun _ => fun
  | [d1, d2, d3] => { results := [.lit (.bool false)], args := [d1, d2, d3] }
  | _ => none }
def TypesKeepsWrongFalsely : Prop := typesKeepsRow.holds Tryd.pinned (OpenSpec.ofChange typesKeepsWrong)

/- THE SECOND FORM. 'bulk': how many values and letters a reading holds, each counted each time it is reached (what is shared counts as often as it is met; a slice's spare places count too). A statement '..UptoSaid' is the law's where the arguments, and the package variables that the reading takes, are together of bulk at most 1048576: NARROWER than '..Said'. Prove '..Said' where nothing that the law and all that it calls make is longer than what came in: it says more and counts as full. Else prove '..UptoSaid'. A law counts once. -/
mutual
def uptoBulk {H : Type} : DataW H → Nat
  | .lit (.string bytes) => bytes.length + 1
  | .lit _ => 1
  | .nil => 1
  | .ptr d => uptoBulk d + 1
  | .slice elems spare => uptoBulkAll elems + uptoBulkAll spare + 1
  | .agg parts => uptoBulkAll parts + 1
  | .iface _ d => uptoBulk d + 1
  | .map entries => uptoBulkEntries entries + 1
  | .held _ => 1
def uptoBulkAll {H : Type} : List (DataW H) → Nat
  | [] => 0
  | d :: r => uptoBulk d + uptoBulkAll r
def uptoBulkEntries {H : Type} : List (Lit × DataW H) → Nat
  | [] => 0
  | x :: r => uptoBulkEntry x + uptoBulkEntries r
def uptoBulkEntry {H : Type} : Lit × DataW H → Nat
  | (.string bytes, d) => bytes.length + uptoBulk d + 1
  | (_, d) => uptoBulk d + 1
 end
def uptoSmall : (H : Type) → List (DataW H) → Bool := fun _ ds => decide (uptoBulkAll ds ≤ 1048576)
def OpenSpec.upto (s : _root_.Go.ChangeSpec) : _root_.Go.OpenSpec := { _root_.Go.OpenSpec.ofChange s with cond := some uptoSmall }

/-- 'heddlelaw02.TypesPlays', WHERE WHAT IT READS IS OF BULK AT MOST 1048576: true; the input reads as it did. -/
def typesPlaysUptoRow : OpenClaim := { program := "ytfjbhpjgidgjaaadoor", sum := "0069c9e2cbea42870cfa9a9d904fc72ec0874ccf1d261e9b5632ef65a55ca2d8", func := "heddle/heddlelaw02.TypesPlays", spec := "typesPlays", recurses := true, named := ["heddle/types.partsOf"], apart := false, laid := [("heddle/types.partsOf", laid_heddle_types_partsOf)], narrowed := true }
def TypesPlaysUptoSaid : Prop := typesPlaysUptoRow.holds Tryd.pinned (OpenSpec.upto typesPlaysSpec)

/-- 'heddlelaw02.TypesReads', WHERE WHAT IT READS IS OF BULK AT MOST 1048576: true; the input reads as it did. -/
def typesReadsUptoRow : OpenClaim := { program := "ytfjbhpjgidgjaaadoor", sum := "0069c9e2cbea42870cfa9a9d904fc72ec0874ccf1d261e9b5632ef65a55ca2d8", func := "heddle/heddlelaw02.TypesReads", spec := "typesReads", recurses := true, named := ["heddle/types.partsOf"], apart := false, laid := [("heddle/types.partsOf", laid_heddle_types_partsOf)], narrowed := true }
def TypesReadsUptoSaid : Prop := typesReadsUptoRow.holds Tryd.pinned (OpenSpec.upto typesReadsSpec)

/-- 'heddlelaw02.TypesBack', WHERE WHAT IT READS IS OF BULK AT MOST 1048576: true; the input reads as it did. -/
def typesBackUptoRow : OpenClaim := { program := "ytfjbhpjgidgjaaadoor", sum := "0069c9e2cbea42870cfa9a9d904fc72ec0874ccf1d261e9b5632ef65a55ca2d8", func := "heddle/heddlelaw02.TypesBack", spec := "typesBack", recurses := true, named := ["heddle/types.partsOf"], apart := false, laid := [("heddle/types.partsOf", laid_heddle_types_partsOf)], narrowed := true }
def TypesBackUptoSaid : Prop := typesBackUptoRow.holds Tryd.pinned (OpenSpec.upto typesBackSpec)

/-- 'heddlelaw02.TypesParts', WHERE WHAT IT READS IS OF BULK AT MOST 1048576: true; the input reads as it did. -/
def typesPartsUptoRow : OpenClaim := { program := "ytfjbhpjgidgjaaadoor", sum := "0069c9e2cbea42870cfa9a9d904fc72ec0874ccf1d261e9b5632ef65a55ca2d8", func := "heddle/heddlelaw02.TypesParts", spec := "typesParts", recurses := true, named := ["heddle/types.partsOf"], apart := false, laid := [("heddle/types.partsOf", laid_heddle_types_partsOf)], narrowed := true }
def TypesPartsUptoSaid : Prop := typesPartsUptoRow.holds Tryd.pinned (OpenSpec.upto typesPartsSpec)

/-- 'heddlelaw02.TypesMore', WHERE WHAT IT READS IS OF BULK AT MOST 1048576: true; the input reads as it did. -/
def typesMoreUptoRow : OpenClaim := { program := "ytfjbhpjgidgjaaadoor", sum := "0069c9e2cbea42870cfa9a9d904fc72ec0874ccf1d261e9b5632ef65a55ca2d8", func := "heddle/heddlelaw02.TypesMore", spec := "typesMore", recurses := true, named := ["heddle/types.partsOf"], apart := false, laid := [("heddle/types.partsOf", laid_heddle_types_partsOf)], narrowed := true }
def TypesMoreUptoSaid : Prop := typesMoreUptoRow.holds Tryd.pinned (OpenSpec.upto typesMoreSpec)

/-- 'heddlelaw02.TypesKeeps', WHERE WHAT IT READS IS OF BULK AT MOST 1048576: true; the input reads as it did. -/
def typesKeepsUptoRow : OpenClaim := { program := "ytfjbhpjgidgjaaadoor", sum := "0069c9e2cbea42870cfa9a9d904fc72ec0874ccf1d261e9b5632ef65a55ca2d8", func := "heddle/heddlelaw02.TypesKeeps", spec := "typesKeeps", recurses := true, named := ["heddle/types.partsOf"], apart := false, laid := [("heddle/types.partsOf", laid_heddle_types_partsOf)], narrowed := true }
def TypesKeepsUptoSaid : Prop := typesKeepsUptoRow.holds Tryd.pinned (OpenSpec.upto typesKeepsSpec)

end Rows
end Go.Proofs.YtfjbhpjgidgjaaaDoor
