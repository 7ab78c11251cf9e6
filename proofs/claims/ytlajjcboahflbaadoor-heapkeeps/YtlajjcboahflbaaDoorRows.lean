/-
  NARROWER THAN 'FOR EVERY INPUT', by the rows' own cells (each row's printed sentence says how): HeapApart: laid · HeapZero: laid · HeapBack: laid · HeapNil: laid · HeapKeeps: laid · HeapWords: laid.
  DERIVED. THE GIVEN ROWS OF THIS SEAT. 6 by the template 'for every input the law returns true; each argument reads behind the call as it read before'; 0 by the template 'total and deterministic' (their statements: YtlajjcboahflbaaDoorTotals.lean).
  GIVEN WITH THE SEED: the statements are not yours to turn. If you find one false, say at which input.
  Laid BY PROGRAM, IN A SANDBOX (cutbox-rows.mjs): the forced cells as the released guide's own fill.sh prints them over the translation 167f27e69c019334… (all of the seat's roots in one cut). By AI agents, Wed Nov 11 2026. No macro, syntax, notation, axiom, sorry.
-/
import Derived.Test.YtlajjcboahflbaaDoorChecked
import GoSem.Claim
import GoSem.ClaimJoined
import GoSem.ClaimMapViews
import Derived.JoinedTies
import Derived.KernelRfl
namespace Go.Proofs.YtlajjcboahflbaaDoor
/- THE CELL 'sum', in the pinned program and in every row, IS THE sha256 OF THE DUMP (.gsa) THAT YtlajjcboahflbaaDoorProg.lean LOADS. Nothing in Lean hashes anything: it is a label: what it is worth is what the hold of that sum in a sandbox is worth. -/
noncomputable def Tryd.pinned : Pinned := { name := "ytlajjcboahflbaadoor", sum := "167f27e69c019334a78a7978eb64a9652d70a7c079d118d83b3385d256b15710", checked := Tryd.checked }
namespace Rows
def none {H : Type} : Left H := { results := [], args := [] }

/- WHAT THE LISTED PACKAGE-LEVEL VARIABLES READ AS WHEN THE CALL BEGINS. Each datum BY PROGRAM (the guide's laid-datum.mjs) off the statement by which the dump's own 'gosem.cut.vars' lays the variable. In a bare row this is a premise. The card (YtlajjcboahflbaaDoorCards.lean) ties it to the program's text. -/
def laid_heddle_classes_slots {H : Type} : DataW H := .agg [.lit (.int .i64 8), .lit (.int .i64 16), .lit (.int .i64 24), .lit (.int .i64 32), .lit (.int .i64 48), .lit (.int .i64 64), .lit (.int .i64 96), .lit (.int .i64 128)]

/-- 'heddlelaw06.HeapApart': WHATEVER THE INPUT: true; the input reads as it did. -/
def heapApartSpec : ChangeSpec := { name := "heapApart", fn := fun _ => fun
  | [d1, d2] => { results := [.lit (.bool true)], args := [d1, d2] }
  | _ => none }
def heapApartRow : OpenClaim := { program := "ytlajjcboahflbaadoor", sum := "167f27e69c019334a78a7978eb64a9652d70a7c079d118d83b3385d256b15710", func := "heddle/heddlelaw06.HeapApart", spec := "heapApart", inPlace := ["slices.overlaps[heddle/api.Run]"], unfollowed := true, recurses := true, named := ["heddle/classes.slots"], apart := false, laid := [("heddle/classes.slots", laid_heddle_classes_slots)] }
def HeapApartSaid : Prop := heapApartRow.holds Tryd.pinned (OpenSpec.ofChange heapApartSpec)

/-- ITS FALSE NEIGHBOUR: 'it returns false'. Refute it at one input. -/
def heapApartWrong : ChangeSpec := { name := "heapApart", fn := fun _ => fun
  | [d1, d2] => { results := [.lit (.bool false)], args := [d1, d2] }
  | _ => none }
def HeapApartWrongFalsely : Prop := heapApartRow.holds Tryd.pinned (OpenSpec.ofChange heapApartWrong)

/-- 'heddlelaw06.HeapZero': WHATEVER THE INPUT: true; the input reads as it did. -/
def heapZeroSpec : ChangeSpec := { name := "heapZero", fn := fun _ => fun
  | [d1, d2, d3, d4, d5] => { results := [.lit (.bool true)], args := [d1, d2, d3, d4, d5] }
  | _ => none }
def heapZeroRow : OpenClaim := { program := "ytlajjcboahflbaadoor", sum := "167f27e69c019334a78a7978eb64a9652d70a7c079d118d83b3385d256b15710", func := "heddle/heddlelaw06.HeapZero", spec := "heapZero", inPlace := ["slices.overlaps[heddle/api.Run]"], unfollowed := true, recurses := true, named := ["heddle/classes.slots"], apart := false, laid := [("heddle/classes.slots", laid_heddle_classes_slots)] }
def HeapZeroSaid : Prop := heapZeroRow.holds Tryd.pinned (OpenSpec.ofChange heapZeroSpec)

/-- ITS FALSE NEIGHBOUR: 'it returns false'. Refute it at one input. -/
def heapZeroWrong : ChangeSpec := { name := "heapZero", fn := fun _ => fun
  | [d1, d2, d3, d4, d5] => { results := [.lit (.bool false)], args := [d1, d2, d3, d4, d5] }
  | _ => none }
def HeapZeroWrongFalsely : Prop := heapZeroRow.holds Tryd.pinned (OpenSpec.ofChange heapZeroWrong)

/-- 'heddlelaw06.HeapBack': WHATEVER THE INPUT: true; the input reads as it did. -/
def heapBackSpec : ChangeSpec := { name := "heapBack", fn := fun _ => fun
  | [d1, d2, d3, d4] => { results := [.lit (.bool true)], args := [d1, d2, d3, d4] }
  | _ => none }
def heapBackRow : OpenClaim := { program := "ytlajjcboahflbaadoor", sum := "167f27e69c019334a78a7978eb64a9652d70a7c079d118d83b3385d256b15710", func := "heddle/heddlelaw06.HeapBack", spec := "heapBack", inPlace := ["slices.overlaps[heddle/api.Run]"], unfollowed := true, recurses := true, named := ["heddle/classes.slots"], apart := false, laid := [("heddle/classes.slots", laid_heddle_classes_slots)] }
def HeapBackSaid : Prop := heapBackRow.holds Tryd.pinned (OpenSpec.ofChange heapBackSpec)

/-- ITS FALSE NEIGHBOUR: 'it returns false'. Refute it at one input. -/
def heapBackWrong : ChangeSpec := { name := "heapBack", fn := fun _ => fun
  | [d1, d2, d3, d4] => { results := [.lit (.bool false)], args := [d1, d2, d3, d4] }
  | _ => none }
def HeapBackWrongFalsely : Prop := heapBackRow.holds Tryd.pinned (OpenSpec.ofChange heapBackWrong)

/-- 'heddlelaw06.HeapNil': WHATEVER THE INPUT: true; the input reads as it did. -/
def heapNilSpec : ChangeSpec := { name := "heapNil", fn := fun _ => fun
  | [] => { results := [.lit (.bool true)], args := [] }
  | _ => none }
def heapNilRow : OpenClaim := { program := "ytlajjcboahflbaadoor", sum := "167f27e69c019334a78a7978eb64a9652d70a7c079d118d83b3385d256b15710", func := "heddle/heddlelaw06.HeapNil", spec := "heapNil", inPlace := ["slices.overlaps[heddle/api.Run]"], unfollowed := true, recurses := true, named := ["heddle/classes.slots"], apart := false, laid := [("heddle/classes.slots", laid_heddle_classes_slots)] }
def HeapNilSaid : Prop := heapNilRow.holds Tryd.pinned (OpenSpec.ofChange heapNilSpec)

/-- ITS FALSE NEIGHBOUR: 'it returns false'. Refute it at one input. -/
def heapNilWrong : ChangeSpec := { name := "heapNil", fn := fun _ => fun
  | [] => { results := [.lit (.bool false)], args := [] }
  | _ => none }
def HeapNilWrongFalsely : Prop := heapNilRow.holds Tryd.pinned (OpenSpec.ofChange heapNilWrong)

/-- 'heddlelaw06.HeapKeeps': WHATEVER THE INPUT: true; the input reads as it did. -/
def heapKeepsSpec : ChangeSpec := { name := "heapKeeps", fn := fun _ => fun
  | [d1, d2, d3] => { results := [.lit (.bool true)], args := [d1, d2, d3] }
  | _ => none }
def heapKeepsRow : OpenClaim := { program := "ytlajjcboahflbaadoor", sum := "167f27e69c019334a78a7978eb64a9652d70a7c079d118d83b3385d256b15710", func := "heddle/heddlelaw06.HeapKeeps", spec := "heapKeeps", inPlace := ["slices.overlaps[heddle/api.Run]"], unfollowed := true, recurses := true, named := ["heddle/classes.slots"], apart := false, laid := [("heddle/classes.slots", laid_heddle_classes_slots)] }
def HeapKeepsSaid : Prop := heapKeepsRow.holds Tryd.pinned (OpenSpec.ofChange heapKeepsSpec)

/-- ITS FALSE NEIGHBOUR: 'it returns false'. Refute it at one input. -/
def heapKeepsWrong : ChangeSpec := { name := "heapKeeps", fn := fun _ => fun
  | [d1, d2, d3] => { results := [.lit (.bool false)], args := [d1, d2, d3] }
  | _ => none }
def HeapKeepsWrongFalsely : Prop := heapKeepsRow.holds Tryd.pinned (OpenSpec.ofChange heapKeepsWrong)

/-- 'heddlelaw06.HeapWords': WHATEVER THE INPUT: true; the input reads as it did. -/
def heapWordsSpec : ChangeSpec := { name := "heapWords", fn := fun _ => fun
  | [d1, d2, d3, d4, d5] => { results := [.lit (.bool true)], args := [d1, d2, d3, d4, d5] }
  | _ => none }
def heapWordsRow : OpenClaim := { program := "ytlajjcboahflbaadoor", sum := "167f27e69c019334a78a7978eb64a9652d70a7c079d118d83b3385d256b15710", func := "heddle/heddlelaw06.HeapWords", spec := "heapWords", inPlace := ["slices.overlaps[heddle/api.Run]"], unfollowed := true, recurses := true, named := ["heddle/classes.slots"], apart := false, laid := [("heddle/classes.slots", laid_heddle_classes_slots)] }
def HeapWordsSaid : Prop := heapWordsRow.holds Tryd.pinned (OpenSpec.ofChange heapWordsSpec)

/-- ITS FALSE NEIGHBOUR: 'it returns false'. Refute it at one input. -/
def heapWordsWrong : ChangeSpec := { name := "heapWords", fn := fun _ => fun
  | [d1, d2, d3, d4, d5] => { results := [.lit (.bool false)], args := [d1, d2, d3, d4, d5] }
  | _ => none }
def HeapWordsWrongFalsely : Prop := heapWordsRow.holds Tryd.pinned (OpenSpec.ofChange heapWordsWrong)

/- THE SECOND FORM. 'bulk': how many values and letters a reading holds, each counted each time it is reached (what is shared counts as often as it is met; a slice's spare places count too). A statement '..UptoSaid' is the law's where the arguments, and the package variables that the reading takes, are together of bulk at most 1048576: NARROWER than '..Said'. Prove '..Said' where nothing that the law and all that it calls make is longer than what came in: it says more and counts as full. Else prove '..UptoSaid'. A law counts once. -/
mutual
def uptoBulk {H : Type} : DataW H → Nat
  | .lit (.string bytes) => bytes.length + 1
  | .lit _ => 1
  | .nil => 1
  | .ptr d => uptoBulk d + 1
  | .slice elems spare => uptoBulkAll elems + uptoBulkAll spare + 1
  | .agg parts => uptoBulkAll parts + 1
  | .iface _ d => uptoBulk d + 1
  | .map entries => uptoBulkEntries entries + 1
  | .held _ => 1
def uptoBulkAll {H : Type} : List (DataW H) → Nat
  | [] => 0
  | d :: r => uptoBulk d + uptoBulkAll r
def uptoBulkEntries {H : Type} : List (Lit × DataW H) → Nat
  | [] => 0
  | x :: r => uptoBulkEntry x + uptoBulkEntries r
def uptoBulkEntry {H : Type} : Lit × DataW H → Nat
  | (.string bytes, d) => bytes.length + uptoBulk d + 1
  | (_, d) => uptoBulk d + 1
 end
def uptoSmall : (H : Type) → List (DataW H) → Bool := fun _ ds => decide (uptoBulkAll ds ≤ 1048576)
def OpenSpec.upto (s : _root_.Go.ChangeSpec) : _root_.Go.OpenSpec := { _root_.Go.OpenSpec.ofChange s with cond := some uptoSmall }

/-- 'heddlelaw06.HeapApart', WHERE WHAT IT READS IS OF BULK AT MOST 1048576: true; the input reads as it did. -/
def heapApartUptoRow : OpenClaim := { program := "ytlajjcboahflbaadoor", sum := "167f27e69c019334a78a7978eb64a9652d70a7c079d118d83b3385d256b15710", func := "heddle/heddlelaw06.HeapApart", spec := "heapApart", inPlace := ["slices.overlaps[heddle/api.Run]"], unfollowed := true, recurses := true, named := ["heddle/classes.slots"], apart := false, laid := [("heddle/classes.slots", laid_heddle_classes_slots)], narrowed := true }
def HeapApartUptoSaid : Prop := heapApartUptoRow.holds Tryd.pinned (OpenSpec.upto heapApartSpec)

/-- 'heddlelaw06.HeapZero', WHERE WHAT IT READS IS OF BULK AT MOST 1048576: true; the input reads as it did. -/
def heapZeroUptoRow : OpenClaim := { program := "ytlajjcboahflbaadoor", sum := "167f27e69c019334a78a7978eb64a9652d70a7c079d118d83b3385d256b15710", func := "heddle/heddlelaw06.HeapZero", spec := "heapZero", inPlace := ["slices.overlaps[heddle/api.Run]"], unfollowed := true, recurses := true, named := ["heddle/classes.slots"], apart := false, laid := [("heddle/classes.slots", laid_heddle_classes_slots)], narrowed := true }
def HeapZeroUptoSaid : Prop := heapZeroUptoRow.holds Tryd.pinned (OpenSpec.upto heapZeroSpec)

/-- 'heddlelaw06.HeapBack', WHERE WHAT IT READS IS OF BULK AT MOST 1048576: true; the input reads as it did. -/
def heapBackUptoRow : OpenClaim := { program := "ytlajjcboahflbaadoor", sum := "167f27e69c019334a78a7978eb64a9652d70a7c079d118d83b3385d256b15710", func := "heddle/heddlelaw06.HeapBack", spec := "heapBack", inPlace := ["slices.overlaps[heddle/api.Run]"], unfollowed := true, recurses := true, named := ["heddle/classes.slots"], apart := false, laid := [("heddle/classes.slots", laid_heddle_classes_slots)], narrowed := true }
def HeapBackUptoSaid : Prop := heapBackUptoRow.holds Tryd.pinned (OpenSpec.upto heapBackSpec)

/-- 'heddlelaw06.HeapNil', WHERE WHAT IT READS IS OF BULK AT MOST 1048576: true; the input reads as it did. -/
def heapNilUptoRow : OpenClaim := { program := "ytlajjcboahflbaadoor", sum := "167f27e69c019334a78a7978eb64a9652d70a7c079d118d83b3385d256b15710", func := "heddle/heddlelaw06.HeapNil", spec := "heapNil", inPlace := ["slices.overlaps[heddle/api.Run]"], unfollowed := true, recurses := true, named := ["heddle/classes.slots"], apart := false, laid := [("heddle/classes.slots", laid_heddle_classes_slots)], narrowed := true }
def HeapNilUptoSaid : Prop := heapNilUptoRow.holds Tryd.pinned (OpenSpec.upto heapNilSpec)

/-- 'heddlelaw06.HeapKeeps', WHERE WHAT IT READS IS OF BULK AT MOST 1048576: true; the input reads as it did. -/
def heapKeepsUptoRow : OpenClaim := { program := "ytlajjcboahflbaadoor", sum := "167f27e69c019334a78a7978eb64a9652d70a7c079d118d83b3385d256b15710", func := "heddle/heddlelaw06.HeapKeeps", spec := "heapKeeps", inPlace := ["slices.overlaps[heddle/api.Run]"], unfollowed := true, recurses := true, named := ["heddle/classes.slots"], apart := false, laid := [("heddle/classes.slots", laid_heddle_classes_slots)], narrowed := true }
def HeapKeepsUptoSaid : Prop := heapKeepsUptoRow.holds Tryd.pinned (OpenSpec.upto heapKeepsSpec)

/-- 'heddlelaw06.HeapWords', WHERE WHAT IT READS IS OF BULK AT MOST 1048576: true; the input reads as it did. -/
def heapWordsUptoRow : OpenClaim := { program := "ytlajjcboahflbaadoor", sum := "167f27e69c019334a78a7978eb64a9652d70a7c079d118d83b3385d256b15710", func := "heddle/heddlelaw06.HeapWords", spec := "heapWords", inPlace := ["slices.overlaps[heddle/api.Run]"], unfollowed := true, recurses := true, named := ["heddle/classes.slots"], apart := false, laid := [("heddle/classes.slots", laid_heddle_classes_slots)], narrowed := true }
def HeapWordsUptoSaid : Prop := heapWordsUptoRow.holds Tryd.pinned (OpenSpec.upto heapWordsSpec)

end Rows
end Go.Proofs.YtlajjcboahflbaaDoor
