/-
  NARROWER THAN 'FOR EVERY INPUT', by the rows' own cells (each row's printed sentence says how): LayoutSaves: loops, laid · LayoutLoads: laid · LayoutObjects: loops, laid · LayoutCollects: loops, laid · LayoutParts: loops, laid · LayoutNil: loops, laid.
  DERIVED. THE GIVEN ROWS OF THIS SEAT. 6 by the template 'for every input the law returns true; each argument reads behind the call as it read before'; 0 by the template 'total and deterministic' (their statements: YtbpjmcjjambdkaaGreatDoorTotals.lean).
  GIVEN WITH THE SEED: the statements are not yours to turn. If you find one false, say at which input.
  Laid BY PROGRAM, IN A SANDBOX (cutbox-rows.mjs): the forced cells as the released guide's own fill.sh prints them over the translation a89d5752d73cb00f… (all of the seat's roots in one cut). By AI agents, Wed Nov 11 2026. No macro, syntax, notation, axiom, sorry.
-/
import Derived.Test.YtbpjmcjjambdkaaGreatDoorChecked
import GoSem.Claim
import GoSem.ClaimJoined
import GoSem.ClaimMapViews
import Derived.JoinedTies
import Derived.KernelRfl
namespace Go.Proofs.YtbpjmcjjambdkaaGreatDoor
/- THE CELL 'sum', in the pinned program and in every row, IS THE sha256 OF THE DUMP (.gsa) THAT YtbpjmcjjambdkaaGreatDoorProg.lean LOADS. Nothing in Lean hashes anything: it is a label: what it is worth is what the hold of that sum in a sandbox is worth. -/
noncomputable def Tryz.pinned : Pinned := { name := "ytbpjmcjjambdkaagreatdoor", sum := "a89d5752d73cb00fa3051df16090e7c477d7ca203263a275087105ed2e033b21", checked := Tryz.checked }
namespace Rows
def none {H : Type} : Left H := { results := [], args := [] }

/- WHAT THE LISTED PACKAGE-LEVEL VARIABLES READ AS WHEN THE CALL BEGINS. Each datum BY PROGRAM (the guide's laid-datum.mjs) off the statement by which the dump's own 'gosem.cut.vars' lays the variable. In a bare row this is a premise. The card (YtbpjmcjjambdkaaGreatDoorCards.lean) ties it to the program's text. -/
def laid_heddle_classes_slots {H : Type} : DataW H := .agg [.lit (.int .i64 8), .lit (.int .i64 16), .lit (.int .i64 24), .lit (.int .i64 32), .lit (.int .i64 48), .lit (.int .i64 64), .lit (.int .i64 96), .lit (.int .i64 128)]
def laid_heddle_types_partsOf {H : Type} : DataW H := .agg [.lit (.int .i64 0), .lit (.int .i64 0), .lit (.int .i64 0), .lit (.int .i64 0), .lit (.int .i64 0), .lit (.int .i64 2), .lit (.int .i64 3), .lit (.int .i64 0), .lit (.int .i64 8), .lit (.int .i64 6), .lit (.int .i64 2)]

/-- 'heddlelaw16.LayoutSaves': WHATEVER THE INPUT: true; the input reads as it did. -/
def layoutSavesSpec : ChangeSpec := { name := "layoutSaves", fn := fun _ => fun
  | [d1, d2, d3] => { results := [.lit (.bool true)], args := [d1, d2, d3] }
  | _ => none }
def layoutSavesRow : OpenClaim := { program := "ytbpjmcjjambdkaagreatdoor", sum := "a89d5752d73cb00fa3051df16090e7c477d7ca203263a275087105ed2e033b21", func := "heddle/heddlelaw16.LayoutSaves", spec := "layoutSaves", inPlace := ["slices.overlaps[heddle/api.Run]"], unfollowed := true, recurses := true, named := ["heddle/classes.slots", "heddle/types.partsOf"], loops := true, apart := false, laid := [("heddle/classes.slots", laid_heddle_classes_slots), ("heddle/types.partsOf", laid_heddle_types_partsOf)] }
def LayoutSavesSaid : Prop := layoutSavesRow.holds Tryz.pinned (OpenSpec.ofChange layoutSavesSpec)

/-- ITS FALSE NEIGHBOUR: 'it returns false'. Refute it at one input. -/
def layoutSavesWrong : ChangeSpec := { name := "layoutSaves", fn := fun _ => fun
  | [d1, d2, d3] => { results := [.lit (.bool false)], args := [d1, d2, d3] }
  | _ => none }
def LayoutSavesWrongFalsely : Prop := layoutSavesRow.holds Tryz.pinned (OpenSpec.ofChange layoutSavesWrong)

/-- 'heddlelaw16.LayoutLoads': WHATEVER THE INPUT: true; the input reads as it did. -/
def layoutLoadsSpec : ChangeSpec := { name := "layoutLoads", fn := fun _ => fun
  | [d1, d2, d3, d4] => { results := [.lit (.bool true)], args := [d1, d2, d3, d4] }
  | _ => none }
def layoutLoadsRow : OpenClaim := { program := "ytbpjmcjjambdkaagreatdoor", sum := "a89d5752d73cb00fa3051df16090e7c477d7ca203263a275087105ed2e033b21", func := "heddle/heddlelaw16.LayoutLoads", spec := "layoutLoads", inPlace := ["slices.overlaps[heddle/api.Run]"], unfollowed := true, recurses := true, named := ["heddle/classes.slots", "heddle/types.partsOf"], apart := false, laid := [("heddle/classes.slots", laid_heddle_classes_slots), ("heddle/types.partsOf", laid_heddle_types_partsOf)] }
def LayoutLoadsSaid : Prop := layoutLoadsRow.holds Tryz.pinned (OpenSpec.ofChange layoutLoadsSpec)

/-- ITS FALSE NEIGHBOUR: 'it returns false'. Refute it at one input. -/
def layoutLoadsWrong : ChangeSpec := { name := "layoutLoads", fn := fun _ => fun
  | [d1, d2, d3, d4] => { results := [.lit (.bool false)], args := [d1, d2, d3, d4] }
  | _ => none }
def LayoutLoadsWrongFalsely : Prop := layoutLoadsRow.holds Tryz.pinned (OpenSpec.ofChange layoutLoadsWrong)

/-- 'heddlelaw16.LayoutObjects': WHATEVER THE INPUT: true; the input reads as it did. -/
def layoutObjectsSpec : ChangeSpec := { name := "layoutObjects", fn := fun _ => fun
  | [d1, d2, d3] => { results := [.lit (.bool true)], args := [d1, d2, d3] }
  | _ => none }
def layoutObjectsRow : OpenClaim := { program := "ytbpjmcjjambdkaagreatdoor", sum := "a89d5752d73cb00fa3051df16090e7c477d7ca203263a275087105ed2e033b21", func := "heddle/heddlelaw16.LayoutObjects", spec := "layoutObjects", inPlace := ["slices.overlaps[heddle/api.Run]"], unfollowed := true, recurses := true, named := ["heddle/classes.slots", "heddle/types.partsOf"], loops := true, apart := false, laid := [("heddle/classes.slots", laid_heddle_classes_slots), ("heddle/types.partsOf", laid_heddle_types_partsOf)] }
def LayoutObjectsSaid : Prop := layoutObjectsRow.holds Tryz.pinned (OpenSpec.ofChange layoutObjectsSpec)

/-- ITS FALSE NEIGHBOUR: 'it returns false'. Refute it at one input. -/
def layoutObjectsWrong : ChangeSpec := { name := "layoutObjects", fn := fun _ => fun
  | [d1, d2, d3] => { results := [.lit (.bool false)], args := [d1, d2, d3] }
  | _ => none }
def LayoutObjectsWrongFalsely : Prop := layoutObjectsRow.holds Tryz.pinned (OpenSpec.ofChange layoutObjectsWrong)

/-- 'heddlelaw16.LayoutCollects': WHATEVER THE INPUT: true; the input reads as it did. -/
def layoutCollectsSpec : ChangeSpec := { name := "layoutCollects", fn := fun _ => fun
  | [d1, d2, d3] => { results := [.lit (.bool true)], args := [d1, d2, d3] }
  | _ => none }
def layoutCollectsRow : OpenClaim := { program := "ytbpjmcjjambdkaagreatdoor", sum := "a89d5752d73cb00fa3051df16090e7c477d7ca203263a275087105ed2e033b21", func := "heddle/heddlelaw16.LayoutCollects", spec := "layoutCollects", inPlace := ["slices.overlaps[heddle/api.Run]"], unfollowed := true, recurses := true, named := ["heddle/classes.slots", "heddle/types.partsOf"], loops := true, apart := false, laid := [("heddle/classes.slots", laid_heddle_classes_slots), ("heddle/types.partsOf", laid_heddle_types_partsOf)] }
def LayoutCollectsSaid : Prop := layoutCollectsRow.holds Tryz.pinned (OpenSpec.ofChange layoutCollectsSpec)

/-- ITS FALSE NEIGHBOUR: 'it returns false'. Refute it at one input. -/
def layoutCollectsWrong : ChangeSpec := { name := "layoutCollects", fn := fun _ => fun
  | [d1, d2, d3] => { results := [.lit (.bool false)], args := [d1, d2, d3] }
  | _ => none }
def LayoutCollectsWrongFalsely : Prop := layoutCollectsRow.holds Tryz.pinned (OpenSpec.ofChange layoutCollectsWrong)

/-- 'heddlelaw16.LayoutParts': WHATEVER THE INPUT: true; the input reads as it did. -/
def layoutPartsSpec : ChangeSpec := { name := "layoutParts", fn := fun _ => fun
  | [d1, d2, d3] => { results := [.lit (.bool true)], args := [d1, d2, d3] }
  | _ => none }
def layoutPartsRow : OpenClaim := { program := "ytbpjmcjjambdkaagreatdoor", sum := "a89d5752d73cb00fa3051df16090e7c477d7ca203263a275087105ed2e033b21", func := "heddle/heddlelaw16.LayoutParts", spec := "layoutParts", inPlace := ["slices.overlaps[heddle/api.Run]"], unfollowed := true, recurses := true, named := ["heddle/classes.slots", "heddle/types.partsOf"], loops := true, apart := false, laid := [("heddle/classes.slots", laid_heddle_classes_slots), ("heddle/types.partsOf", laid_heddle_types_partsOf)] }
def LayoutPartsSaid : Prop := layoutPartsRow.holds Tryz.pinned (OpenSpec.ofChange layoutPartsSpec)

/-- ITS FALSE NEIGHBOUR: 'it returns false'. Refute it at one input. -/
def layoutPartsWrong : ChangeSpec := { name := "layoutParts", fn := fun _ => fun
  | [d1, d2, d3] => { results := [.lit (.bool false)], args := [d1, d2, d3] }
  | _ => none }
def LayoutPartsWrongFalsely : Prop := layoutPartsRow.holds Tryz.pinned (OpenSpec.ofChange layoutPartsWrong)

/-- 'heddlelaw16.LayoutNil': WHATEVER THE INPUT: true; the input reads as it did. -/
def layoutNilSpec : ChangeSpec := { name := "layoutNil", fn := fun _ => fun
  | [d] => { results := [.lit (.bool true)], args := [d] }
  | _ => none }
def layoutNilRow : OpenClaim := { program := "ytbpjmcjjambdkaagreatdoor", sum := "a89d5752d73cb00fa3051df16090e7c477d7ca203263a275087105ed2e033b21", func := "heddle/heddlelaw16.LayoutNil", spec := "layoutNil", inPlace := ["slices.overlaps[heddle/api.Run]"], unfollowed := true, recurses := true, named := ["heddle/types.partsOf", "heddle/classes.slots"], loops := true, apart := false, laid := [("heddle/classes.slots", laid_heddle_classes_slots), ("heddle/types.partsOf", laid_heddle_types_partsOf)] }
def LayoutNilSaid : Prop := layoutNilRow.holds Tryz.pinned (OpenSpec.ofChange layoutNilSpec)

/-- ITS FALSE NEIGHBOUR: 'it returns false'. Refute it at one input. -/
def layoutNilWrong : ChangeSpec := { name := "layoutNil", fn := fun _ => fun
  | [d] => { results := [.lit (.bool false)], args := [d] }
  | _ => none }
def LayoutNilWrongFalsely : Prop := layoutNilRow.holds Tryz.pinned (OpenSpec.ofChange layoutNilWrong)

/- THE SECOND FORM. 'bulk': how many values and letters a reading holds, each counted each time it is reached (what is shared counts as often as it is met; a slice's spare places count too). A statement '..UptoSaid' is the law's where the arguments, and the package variables that the reading takes, are together of bulk at most 1048576: NARROWER than '..Said'. Prove '..Said' where nothing that the law and all that it calls make is longer than what came in: it says more and counts as full. Else prove '..UptoSaid'. A law counts once. -/
mutual
def uptoBulk {H : Type} : DataW H → Nat
  | .lit (.string bytes) => bytes.length + 1
  | .lit _ => 1
  | .nil => 1
  | .ptr d => uptoBulk d + 1
  | .slice elems spare => uptoBulkAll elems + uptoBulkAll spare + 1
  | .agg parts => uptoBulkAll parts + 1
  | .iface _ d => uptoBulk d + 1
  | .map entries => uptoBulkEntries entries + 1
  | .held _ => 1
def uptoBulkAll {H : Type} : List (DataW H) → Nat
  | [] => 0
  | d :: r => uptoBulk d + uptoBulkAll r
def uptoBulkEntries {H : Type} : List (Lit × DataW H) → Nat
  | [] => 0
  | x :: r => uptoBulkEntry x + uptoBulkEntries r
def uptoBulkEntry {H : Type} : Lit × DataW H → Nat
  | (.string bytes, d) => bytes.length + uptoBulk d + 1
  | (_, d) => uptoBulk d + 1
 end
def uptoSmall : (H : Type) → List (DataW H) → Bool := fun _ ds => decide (uptoBulkAll ds ≤ 1048576)
def OpenSpec.upto (s : _root_.Go.ChangeSpec) : _root_.Go.OpenSpec := { _root_.Go.OpenSpec.ofChange s with cond := some uptoSmall }

/-- 'heddlelaw16.LayoutSaves', WHERE WHAT IT READS IS OF BULK AT MOST 1048576: true; the input reads as it did. -/
def layoutSavesUptoRow : OpenClaim := { program := "ytbpjmcjjambdkaagreatdoor", sum := "a89d5752d73cb00fa3051df16090e7c477d7ca203263a275087105ed2e033b21", func := "heddle/heddlelaw16.LayoutSaves", spec := "layoutSaves", inPlace := ["slices.overlaps[heddle/api.Run]"], unfollowed := true, recurses := true, named := ["heddle/classes.slots", "heddle/types.partsOf"], loops := true, apart := false, laid := [("heddle/classes.slots", laid_heddle_classes_slots), ("heddle/types.partsOf", laid_heddle_types_partsOf)], narrowed := true }
def LayoutSavesUptoSaid : Prop := layoutSavesUptoRow.holds Tryz.pinned (OpenSpec.upto layoutSavesSpec)

/-- 'heddlelaw16.LayoutLoads', WHERE WHAT IT READS IS OF BULK AT MOST 1048576: true; the input reads as it did. -/
def layoutLoadsUptoRow : OpenClaim := { program := "ytbpjmcjjambdkaagreatdoor", sum := "a89d5752d73cb00fa3051df16090e7c477d7ca203263a275087105ed2e033b21", func := "heddle/heddlelaw16.LayoutLoads", spec := "layoutLoads", inPlace := ["slices.overlaps[heddle/api.Run]"], unfollowed := true, recurses := true, named := ["heddle/classes.slots", "heddle/types.partsOf"], apart := false, laid := [("heddle/classes.slots", laid_heddle_classes_slots), ("heddle/types.partsOf", laid_heddle_types_partsOf)], narrowed := true }
def LayoutLoadsUptoSaid : Prop := layoutLoadsUptoRow.holds Tryz.pinned (OpenSpec.upto layoutLoadsSpec)

/-- 'heddlelaw16.LayoutObjects', WHERE WHAT IT READS IS OF BULK AT MOST 1048576: true; the input reads as it did. -/
def layoutObjectsUptoRow : OpenClaim := { program := "ytbpjmcjjambdkaagreatdoor", sum := "a89d5752d73cb00fa3051df16090e7c477d7ca203263a275087105ed2e033b21", func := "heddle/heddlelaw16.LayoutObjects", spec := "layoutObjects", inPlace := ["slices.overlaps[heddle/api.Run]"], unfollowed := true, recurses := true, named := ["heddle/classes.slots", "heddle/types.partsOf"], loops := true, apart := false, laid := [("heddle/classes.slots", laid_heddle_classes_slots), ("heddle/types.partsOf", laid_heddle_types_partsOf)], narrowed := true }
def LayoutObjectsUptoSaid : Prop := layoutObjectsUptoRow.holds Tryz.pinned (OpenSpec.upto layoutObjectsSpec)

/-- 'heddlelaw16.LayoutCollects', WHERE WHAT IT READS IS OF BULK AT MOST 1048576: true; the input reads as it did. -/
def layoutCollectsUptoRow : OpenClaim := { program := "ytbpjmcjjambdkaagreatdoor", sum := "a89d5752d73cb00fa3051df16090e7c477d7ca203263a275087105ed2e033b21", func := "heddle/heddlelaw16.LayoutCollects", spec := "layoutCollects", inPlace := ["slices.overlaps[heddle/api.Run]"], unfollowed := true, recurses := true, named := ["heddle/classes.slots", "heddle/types.partsOf"], loops := true, apart := false, laid := [("heddle/classes.slots", laid_heddle_classes_slots), ("heddle/types.partsOf", laid_heddle_types_partsOf)], narrowed := true }
def LayoutCollectsUptoSaid : Prop := layoutCollectsUptoRow.holds Tryz.pinned (OpenSpec.upto layoutCollectsSpec)

/-- 'heddlelaw16.LayoutParts', WHERE WHAT IT READS IS OF BULK AT MOST 1048576: true; the input reads as it did. -/
def layoutPartsUptoRow : OpenClaim := { program := "ytbpjmcjjambdkaagreatdoor", sum := "a89d5752d73cb00fa3051df16090e7c477d7ca203263a275087105ed2e033b21", func := "heddle/heddlelaw16.LayoutParts", spec := "layoutParts", inPlace := ["slices.overlaps[heddle/api.Run]"], unfollowed := true, recurses := true, named := ["heddle/classes.slots", "heddle/types.partsOf"], loops := true, apart := false, laid := [("heddle/classes.slots", laid_heddle_classes_slots), ("heddle/types.partsOf", laid_heddle_types_partsOf)], narrowed := true }
def LayoutPartsUptoSaid : Prop := layoutPartsUptoRow.holds Tryz.pinned (OpenSpec.upto layoutPartsSpec)

/-- 'heddlelaw16.LayoutNil', WHERE WHAT IT READS IS OF BULK AT MOST 1048576: true; the input reads as it did. -/
def layoutNilUptoRow : OpenClaim := { program := "ytbpjmcjjambdkaagreatdoor", sum := "a89d5752d73cb00fa3051df16090e7c477d7ca203263a275087105ed2e033b21", func := "heddle/heddlelaw16.LayoutNil", spec := "layoutNil", inPlace := ["slices.overlaps[heddle/api.Run]"], unfollowed := true, recurses := true, named := ["heddle/types.partsOf", "heddle/classes.slots"], loops := true, apart := false, laid := [("heddle/classes.slots", laid_heddle_classes_slots), ("heddle/types.partsOf", laid_heddle_types_partsOf)], narrowed := true }
def LayoutNilUptoSaid : Prop := layoutNilUptoRow.holds Tryz.pinned (OpenSpec.upto layoutNilSpec)

end Rows
end Go.Proofs.YtbpjmcjjambdkaaGreatDoor
