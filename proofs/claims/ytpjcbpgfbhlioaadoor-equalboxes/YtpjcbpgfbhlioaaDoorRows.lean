/-
  NARROWER THAN 'FOR EVERY INPUT', by the rows' own cells (each row's printed sentence says how): EqualPlays: loops, laid · EqualHashes: loops, laid · EqualOrder: loops, laid · EqualSame: loops, laid · EqualKeeps: loops, laid · EqualBoxes: loops, laid.
  DERIVED. THE GIVEN ROWS OF THIS SEAT. 6 by the template 'for every input the law returns true; each argument reads behind the call as it read before'; 0 by the template 'total and deterministic' (their statements: YtpjcbpgfbhlioaaDoorTotals.lean).
  GIVEN WITH THE SEED: the statements are not yours to turn. If you find one false, say at which input.
  Laid BY PROGRAM, IN A SANDBOX (cutbox-rows.mjs): the forced cells as the released guide's own fill.sh prints them over the translation 5d58c628511a4a71… (all of the seat's roots in one cut). By AI agents, Wed Nov 11 2026. No macro, syntax, notation, axiom, sorry.
-/
import Derived.Test.YtpjcbpgfbhlioaaDoorChecked
import GoSem.Claim
import GoSem.ClaimJoined
import GoSem.ClaimMapViews
import Derived.JoinedTies
import Derived.KernelRfl
namespace Go.Proofs.YtpjcbpgfbhlioaaDoor
/- THE CELL 'sum', in the pinned program and in every row, IS THE sha256 OF THE DUMP (.gsa) THAT YtpjcbpgfbhlioaaDoorProg.lean LOADS. Nothing in Lean hashes anything: it is a label: what it is worth is what the hold of that sum in a sandbox is worth. -/
noncomputable def Tryd.pinned : Pinned := { name := "ytpjcbpgfbhlioaadoor", sum := "5d58c628511a4a71fdb0202011ac6c206bff1f3442e8466efe6260b70e1a0424", checked := Tryd.checked }
namespace Rows
def none {H : Type} : Left H := { results := [], args := [] }

/- WHAT THE LISTED PACKAGE-LEVEL VARIABLES READ AS WHEN THE CALL BEGINS. Each datum BY PROGRAM (the guide's laid-datum.mjs) off the statement by which the dump's own 'gosem.cut.vars' lays the variable. In a bare row this is a premise. The card (YtpjcbpgfbhlioaaDoorCards.lean) ties it to the program's text. -/
def laid_heddle_types_partsOf {H : Type} : DataW H := .agg [.lit (.int .i64 0), .lit (.int .i64 0), .lit (.int .i64 0), .lit (.int .i64 0), .lit (.int .i64 0), .lit (.int .i64 2), .lit (.int .i64 3), .lit (.int .i64 0), .lit (.int .i64 8), .lit (.int .i64 6), .lit (.int .i64 2)]

/-- 'heddlelaw10.EqualPlays': WHATEVER THE INPUT: true; the input reads as it did. -/
def equalPlaysSpec : ChangeSpec := { name := "equalPlays", fn := fun _ => fun
  | [d1, d2, d3, d4] => { results := [.lit (.bool true)], args := [d1, d2, d3, d4] }
  | _ => none }
def equalPlaysRow : OpenClaim := { program := "ytpjcbpgfbhlioaadoor", sum := "5d58c628511a4a71fdb0202011ac6c206bff1f3442e8466efe6260b70e1a0424", func := "heddle/heddlelaw10.EqualPlays", spec := "equalPlays", inPlace := ["math.Float64frombits"], unfollowed := true, recurses := true, named := ["heddle/types.partsOf"], loops := true, apart := false, laid := [("heddle/types.partsOf", laid_heddle_types_partsOf)] }
def EqualPlaysSaid : Prop := equalPlaysRow.holds Tryd.pinned (OpenSpec.ofChange equalPlaysSpec)

/-- ITS FALSE NEIGHBOUR: 'it returns false'. Refute it at one input. -/
def equalPlaysWrong : ChangeSpec := { name := "equalPlays", fn := fun _ => fun
  | [d1, d2, d3, d4] => { results := [.lit (.bool false)], args := [d1, d2, d3, d4] }
  | _ => none }
def EqualPlaysWrongFalsely : Prop := equalPlaysRow.holds Tryd.pinned (OpenSpec.ofChange equalPlaysWrong)

/-- 'heddlelaw10.EqualHashes': WHATEVER THE INPUT: true; the input reads as it did. -/
def equalHashesSpec : ChangeSpec := { name := "equalHashes", fn := fun _ => fun
  | [d1, d2, d3, d4, d5] => { results := [.lit (.bool true)], args := [d1, d2, d3, d4, d5] }
  | _ => none }
def equalHashesRow : OpenClaim := { program := "ytpjcbpgfbhlioaadoor", sum := "5d58c628511a4a71fdb0202011ac6c206bff1f3442e8466efe6260b70e1a0424", func := "heddle/heddlelaw10.EqualHashes", spec := "equalHashes", inPlace := ["math.Float64frombits"], unfollowed := true, recurses := true, named := ["heddle/types.partsOf"], loops := true, apart := false, laid := [("heddle/types.partsOf", laid_heddle_types_partsOf)] }
def EqualHashesSaid : Prop := equalHashesRow.holds Tryd.pinned (OpenSpec.ofChange equalHashesSpec)

/-- ITS FALSE NEIGHBOUR: 'it returns false'. Refute it at one input. -/
def equalHashesWrong : ChangeSpec := { name := "equalHashes", fn := fun _ => fun
  | [d1, d2, d3, d4, d5] => { results := [.lit (.bool false)], args := [d1, d2, d3, d4, d5] }
  | _ => none }
def EqualHashesWrongFalsely : Prop := equalHashesRow.holds Tryd.pinned (OpenSpec.ofChange equalHashesWrong)

/-- 'heddlelaw10.EqualOrder': WHATEVER THE INPUT: true; the input reads as it did. -/
def equalOrderSpec : ChangeSpec := { name := "equalOrder", fn := fun _ => fun
  | [d1, d2, d3] => { results := [.lit (.bool true)], args := [d1, d2, d3] }
  | _ => none }
def equalOrderRow : OpenClaim := { program := "ytpjcbpgfbhlioaadoor", sum := "5d58c628511a4a71fdb0202011ac6c206bff1f3442e8466efe6260b70e1a0424", func := "heddle/heddlelaw10.EqualOrder", spec := "equalOrder", inPlace := ["math.Float64frombits"], unfollowed := true, recurses := true, named := ["heddle/types.partsOf"], loops := true, apart := false, laid := [("heddle/types.partsOf", laid_heddle_types_partsOf)] }
def EqualOrderSaid : Prop := equalOrderRow.holds Tryd.pinned (OpenSpec.ofChange equalOrderSpec)

/-- ITS FALSE NEIGHBOUR: 'it returns false'. Refute it at one input. -/
def equalOrderWrong : ChangeSpec := { name := "equalOrder", fn := fun _ => fun
  | [d1, d2, d3] => { results := [.lit (.bool false)], args := [d1, d2, d3] }
  | _ => none }
def EqualOrderWrongFalsely : Prop := equalOrderRow.holds Tryd.pinned (OpenSpec.ofChange equalOrderWrong)

/-- 'heddlelaw10.EqualSame': WHATEVER THE INPUT: true; the input reads as it did. -/
def equalSameSpec : ChangeSpec := { name := "equalSame", fn := fun _ => fun
  | [d1, d2] => { results := [.lit (.bool true)], args := [d1, d2] }
  | _ => none }
def equalSameRow : OpenClaim := { program := "ytpjcbpgfbhlioaadoor", sum := "5d58c628511a4a71fdb0202011ac6c206bff1f3442e8466efe6260b70e1a0424", func := "heddle/heddlelaw10.EqualSame", spec := "equalSame", inPlace := ["math.Float64frombits"], unfollowed := true, recurses := true, named := ["heddle/types.partsOf"], loops := true, apart := false, laid := [("heddle/types.partsOf", laid_heddle_types_partsOf)] }
def EqualSameSaid : Prop := equalSameRow.holds Tryd.pinned (OpenSpec.ofChange equalSameSpec)

/-- ITS FALSE NEIGHBOUR: 'it returns false'. Refute it at one input. -/
def equalSameWrong : ChangeSpec := { name := "equalSame", fn := fun _ => fun
  | [d1, d2] => { results := [.lit (.bool false)], args := [d1, d2] }
  | _ => none }
def EqualSameWrongFalsely : Prop := equalSameRow.holds Tryd.pinned (OpenSpec.ofChange equalSameWrong)

/-- 'heddlelaw10.EqualKeeps': WHATEVER THE INPUT: true; the input reads as it did. -/
def equalKeepsSpec : ChangeSpec := { name := "equalKeeps", fn := fun _ => fun
  | [d1, d2, d3] => { results := [.lit (.bool true)], args := [d1, d2, d3] }
  | _ => none }
def equalKeepsRow : OpenClaim := { program := "ytpjcbpgfbhlioaadoor", sum := "5d58c628511a4a71fdb0202011ac6c206bff1f3442e8466efe6260b70e1a0424", func := "heddle/heddlelaw10.EqualKeeps", spec := "equalKeeps", inPlace := ["math.Float64frombits"], unfollowed := true, recurses := true, named := ["heddle/types.partsOf"], loops := true, apart := false, laid := [("heddle/types.partsOf", laid_heddle_types_partsOf)] }
def EqualKeepsSaid : Prop := equalKeepsRow.holds Tryd.pinned (OpenSpec.ofChange equalKeepsSpec)

/-- ITS FALSE NEIGHBOUR: 'it returns false'. Refute it at one input. -/
def equalKeepsWrong : ChangeSpec := { name := "equalKeeps", fn := fun _ => fun
  | [d1, d2, d3] => { results := [.lit (.bool false)], args := [d1, d2, d3] }
  | _ => none }
def EqualKeepsWrongFalsely : Prop := equalKeepsRow.holds Tryd.pinned (OpenSpec.ofChange equalKeepsWrong)

/-- 'heddlelaw10.EqualBoxes': WHATEVER THE INPUT: true; the input reads as it did. -/
def equalBoxesSpec : ChangeSpec := { name := "equalBoxes", fn := fun _ => fun
  | [d1, d2, d3] => { results := [.lit (.bool true)], args := [d1, d2, d3] }
  | _ => none }
def equalBoxesRow : OpenClaim := { program := "ytpjcbpgfbhlioaadoor", sum := "5d58c628511a4a71fdb0202011ac6c206bff1f3442e8466efe6260b70e1a0424", func := "heddle/heddlelaw10.EqualBoxes", spec := "equalBoxes", inPlace := ["math.Float64frombits"], unfollowed := true, recurses := true, named := ["heddle/types.partsOf"], loops := true, apart := false, laid := [("heddle/types.partsOf", laid_heddle_types_partsOf)] }
def EqualBoxesSaid : Prop := equalBoxesRow.holds Tryd.pinned (OpenSpec.ofChange equalBoxesSpec)

/-- ITS FALSE NEIGHBOUR: 'it returns false'. Refute it at one input. -/
def equalBoxesWrong : ChangeSpec := { name := "equalBoxes", fn := fun _ => fun
  | [d1, d2, d3] => { results := [.lit (.bool false)], args := [d1, d2, d3] }
  | _ => none }
def EqualBoxesWrongFalsely : Prop := equalBoxesRow.holds Tryd.pinned (OpenSpec.ofChange equalBoxesWrong)

/- THE SECOND FORM. 'bulk': how many values and letters a reading holds, each counted each time it is reached (what is shared counts as often as it is met; a slice's spare places count too). A statement '..UptoSaid' is the law's where the arguments, and the package variables that the reading takes, are together of bulk at most 1048576: NARROWER than '..Said'. Prove '..Said' where nothing that the law and all that it calls make is longer than what came in: it says more and counts as full. Else prove '..UptoSaid'. A law counts once. -/
mutual
def uptoBulk {H : Type} : DataW H → Nat
  | .lit (.string bytes) => bytes.length + 1
  | .lit _ => 1
  | .nil => 1
  | .ptr d => uptoBulk d + 1
  | .slice elems spare => uptoBulkAll elems + uptoBulkAll spare + 1
  | .agg parts => uptoBulkAll parts + 1
  | .iface _ d => uptoBulk d + 1
  | .map entries => uptoBulkEntries entries + 1
  | .held _ => 1
def uptoBulkAll {H : Type} : List (DataW H) → Nat
  | [] => 0
  | d :: r => uptoBulk d + uptoBulkAll r
def uptoBulkEntries {H : Type} : List (Lit × DataW H) → Nat
  | [] => 0
  | x :: r => uptoBulkEntry x + uptoBulkEntries r
def uptoBulkEntry {H : Type} : Lit × DataW H → Nat
  | (.string bytes, d) => bytes.length + uptoBulk d + 1
  | (_, d) => uptoBulk d + 1
 end
def uptoSmall : (H : Type) → List (DataW H) → Bool := fun _ ds => decide (uptoBulkAll ds ≤ 1048576)
def OpenSpec.upto (s : _root_.Go.ChangeSpec) : _root_.Go.OpenSpec := { _root_.Go.OpenSpec.ofChange s with cond := some uptoSmall }

/-- 'heddlelaw10.EqualPlays', WHERE WHAT IT READS IS OF BULK AT MOST 1048576: true; the input reads as it did. -/
def equalPlaysUptoRow : OpenClaim := { program := "ytpjcbpgfbhlioaadoor", sum := "5d58c628511a4a71fdb0202011ac6c206bff1f3442e8466efe6260b70e1a0424", func := "heddle/heddlelaw10.EqualPlays", spec := "equalPlays", inPlace := ["math.Float64frombits"], unfollowed := true, recurses := true, named := ["heddle/types.partsOf"], loops := true, apart := false, laid := [("heddle/types.partsOf", laid_heddle_types_partsOf)], narrowed := true }
def EqualPlaysUptoSaid : Prop := equalPlaysUptoRow.holds Tryd.pinned (OpenSpec.upto equalPlaysSpec)

/-- 'heddlelaw10.EqualHashes', WHERE WHAT IT READS IS OF BULK AT MOST 1048576: true; the input reads as it did. -/
def equalHashesUptoRow : OpenClaim := { program := "ytpjcbpgfbhlioaadoor", sum := "5d58c628511a4a71fdb0202011ac6c206bff1f3442e8466efe6260b70e1a0424", func := "heddle/heddlelaw10.EqualHashes", spec := "equalHashes", inPlace := ["math.Float64frombits"], unfollowed := true, recurses := true, named := ["heddle/types.partsOf"], loops := true, apart := false, laid := [("heddle/types.partsOf", laid_heddle_types_partsOf)], narrowed := true }
def EqualHashesUptoSaid : Prop := equalHashesUptoRow.holds Tryd.pinned (OpenSpec.upto equalHashesSpec)

/-- 'heddlelaw10.EqualOrder', WHERE WHAT IT READS IS OF BULK AT MOST 1048576: true; the input reads as it did. -/
def equalOrderUptoRow : OpenClaim := { program := "ytpjcbpgfbhlioaadoor", sum := "5d58c628511a4a71fdb0202011ac6c206bff1f3442e8466efe6260b70e1a0424", func := "heddle/heddlelaw10.EqualOrder", spec := "equalOrder", inPlace := ["math.Float64frombits"], unfollowed := true, recurses := true, named := ["heddle/types.partsOf"], loops := true, apart := false, laid := [("heddle/types.partsOf", laid_heddle_types_partsOf)], narrowed := true }
def EqualOrderUptoSaid : Prop := equalOrderUptoRow.holds Tryd.pinned (OpenSpec.upto equalOrderSpec)

/-- 'heddlelaw10.EqualSame', WHERE WHAT IT READS IS OF BULK AT MOST 1048576: true; the input reads as it did. -/
def equalSameUptoRow : OpenClaim := { program := "ytpjcbpgfbhlioaadoor", sum := "5d58c628511a4a71fdb0202011ac6c206bff1f3442e8466efe6260b70e1a0424", func := "heddle/heddlelaw10.EqualSame", spec := "equalSame", inPlace := ["math.Float64frombits"], unfollowed := true, recurses := true, named := ["heddle/types.partsOf"], loops := true, apart := false, laid := [("heddle/types.partsOf", laid_heddle_types_partsOf)], narrowed := true }
def EqualSameUptoSaid : Prop := equalSameUptoRow.holds Tryd.pinned (OpenSpec.upto equalSameSpec)

/-- 'heddlelaw10.EqualKeeps', WHERE WHAT IT READS IS OF BULK AT MOST 1048576: true; the input reads as it did. -/
def equalKeepsUptoRow : OpenClaim := { program := "ytpjcbpgfbhlioaadoor", sum := "5d58c628511a4a71fdb0202011ac6c206bff1f3442e8466efe6260b70e1a0424", func := "heddle/heddlelaw10.EqualKeeps", spec := "equalKeeps", inPlace := ["math.Float64frombits"], unfollowed := true, recurses := true, named := ["heddle/types.partsOf"], loops := true, apart := false, laid := [("heddle/types.partsOf", laid_heddle_types_partsOf)], narrowed := true }
def EqualKeepsUptoSaid : Prop := equalKeepsUptoRow.holds Tryd.pinned (OpenSpec.upto equalKeepsSpec)

/-- 'heddlelaw10.EqualBoxes', WHERE WHAT IT READS IS OF BULK AT MOST 1048576: true; the input reads as it did. -/
def equalBoxesUptoRow : OpenClaim := { program := "ytpjcbpgfbhlioaadoor", sum := "5d58c628511a4a71fdb0202011ac6c206bff1f3442e8466efe6260b70e1a0424", func := "heddle/heddlelaw10.EqualBoxes", spec := "equalBoxes", inPlace := ["math.Float64frombits"], unfollowed := true, recurses := true, named := ["heddle/types.partsOf"], loops := true, apart := false, laid := [("heddle/types.partsOf", laid_heddle_types_partsOf)], narrowed := true }
def EqualBoxesUptoSaid : Prop := equalBoxesUptoRow.holds Tryd.pinned (OpenSpec.upto equalBoxesSpec)

end Rows
end Go.Proofs.YtpjcbpgfbhlioaaDoor
