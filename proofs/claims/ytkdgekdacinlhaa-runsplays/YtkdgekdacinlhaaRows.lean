/-
  No cell of these rows narrows 'for every input' (looked for: loops, veiled, ifaces, maps, wideKeys, modest, calm, conditions, laid).
  DERIVED. THE GIVEN ROWS OF THIS SEAT. 6 by the template 'for every input the law returns true; each argument reads behind the call as it read before'; 0 by the template 'total and deterministic' (their statements: YtkdgekdacinlhaaTotals.lean).
  GIVEN WITH THE SEED: the statements are not yours to turn. If you find one false, say at which input.
  Laid BY PROGRAM, IN A SANDBOX (cutbox-rows.mjs): the forced cells as the released guide's own fill.sh prints them over the translation d95fa314c501a1f8… (all of the seat's roots in one cut). By AI agents, Wed Nov 11 2026. No macro, syntax, notation, axiom, sorry.
-/
import Derived.Test.YtkdgekdacinlhaaChecked
import GoSem.Claim
import GoSem.ClaimJoined
import GoSem.ClaimMapViews
import Derived.JoinedTies
import Derived.KernelRfl
namespace Go.Proofs.Ytkdgekdacinlhaa
/- THE CELL 'sum', in the pinned program and in every row, IS THE sha256 OF THE DUMP (.gsa) THAT YtkdgekdacinlhaaProg.lean LOADS. Nothing in Lean hashes anything: it is a label: what it is worth is what the hold of that sum in a sandbox is worth. -/
noncomputable def Try.pinned : Pinned := { name := "ytkdgekdacinlhaa", sum := "d95fa314c501a1f86b175c5f37273392b6ea83b1440a81f6582fc9c1208a189c", checked := Try.checked }
namespace Rows
def none {H : Type} : Left H := { results := [], args := [] }

/-- 'heddlelaw04.RunsPlays': WHATEVER THE INPUT: true; the input reads as it did. -/
def runsPlaysSpec : ChangeSpec := { name := "runsPlays", fn := fun _ => fun
  | [d1, d2] => { results := [.lit (.bool true)], args := [d1, d2] }
  | _ => none }
def runsPlaysRow : OpenClaim := { program := "ytkdgekdacinlhaa", sum := "d95fa314c501a1f86b175c5f37273392b6ea83b1440a81f6582fc9c1208a189c", func := "heddle/heddlelaw04.RunsPlays", spec := "runsPlays", inPlace := ["slices.overlaps[heddle/api.Run]"], unfollowed := true, recurses := true, apart := false }
def RunsPlaysSaid : Prop := runsPlaysRow.holds Try.pinned (OpenSpec.ofChange runsPlaysSpec)

/-- ITS FALSE NEIGHBOUR: 'it returns false'. Refute it at one input. -/
def runsPlaysWrong : ChangeSpec := { name := "runsPlays", fn := fun _ => fun
  | [d1, d2] => { results := [.lit (.bool false)], args := [d1, d2] }
  | _ => none }
def RunsPlaysWrongFalsely : Prop := runsPlaysRow.holds Try.pinned (OpenSpec.ofChange runsPlaysWrong)

/-- 'heddlelaw04.RunsTile': WHATEVER THE INPUT: true; the input reads as it did. -/
def runsTileSpec : ChangeSpec := { name := "runsTile", fn := fun _ => fun
  | [d1, d2] => { results := [.lit (.bool true)], args := [d1, d2] }
  | _ => none }
def runsTileRow : OpenClaim := { program := "ytkdgekdacinlhaa", sum := "d95fa314c501a1f86b175c5f37273392b6ea83b1440a81f6582fc9c1208a189c", func := "heddle/heddlelaw04.RunsTile", spec := "runsTile", inPlace := ["slices.overlaps[heddle/api.Run]"], unfollowed := true, recurses := true, apart := false }
def RunsTileSaid : Prop := runsTileRow.holds Try.pinned (OpenSpec.ofChange runsTileSpec)

/-- ITS FALSE NEIGHBOUR: 'it returns false'. Refute it at one input. -/
def runsTileWrong : ChangeSpec := { name := "runsTile", fn := fun _ => fun
  | [d1, d2] => { results := [.lit (.bool false)], args := [d1, d2] }
  | _ => none }
def RunsTileWrongFalsely : Prop := runsTileRow.holds Try.pinned (OpenSpec.ofChange runsTileWrong)

/-- 'heddlelaw04.RunsBack': WHATEVER THE INPUT: true; the input reads as it did. -/
def runsBackSpec : ChangeSpec := { name := "runsBack", fn := fun _ => fun
  | [d1, d2, d3] => { results := [.lit (.bool true)], args := [d1, d2, d3] }
  | _ => none }
def runsBackRow : OpenClaim := { program := "ytkdgekdacinlhaa", sum := "d95fa314c501a1f86b175c5f37273392b6ea83b1440a81f6582fc9c1208a189c", func := "heddle/heddlelaw04.RunsBack", spec := "runsBack", inPlace := ["slices.overlaps[heddle/api.Run]"], unfollowed := true, recurses := true, apart := false }
def RunsBackSaid : Prop := runsBackRow.holds Try.pinned (OpenSpec.ofChange runsBackSpec)

/-- ITS FALSE NEIGHBOUR: 'it returns false'. Refute it at one input. -/
def runsBackWrong : ChangeSpec := { name := "runsBack", fn := fun _ => fun
  | [d1, d2, d3] => { results := [.lit (.bool false)], args := [d1, d2, d3] }
  | _ => none }
def RunsBackWrongFalsely : Prop := runsBackRow.holds Try.pinned (OpenSpec.ofChange runsBackWrong)

/-- 'heddlelaw04.RunsNil': WHATEVER THE INPUT: true; the input reads as it did. -/
def runsNilSpec : ChangeSpec := { name := "runsNil", fn := fun _ => fun
  | [] => { results := [.lit (.bool true)], args := [] }
  | _ => none }
def runsNilRow : OpenClaim := { program := "ytkdgekdacinlhaa", sum := "d95fa314c501a1f86b175c5f37273392b6ea83b1440a81f6582fc9c1208a189c", func := "heddle/heddlelaw04.RunsNil", spec := "runsNil", inPlace := ["slices.overlaps[heddle/api.Run]"], unfollowed := true, recurses := true, apart := false }
def RunsNilSaid : Prop := runsNilRow.holds Try.pinned (OpenSpec.ofChange runsNilSpec)

/-- ITS FALSE NEIGHBOUR: 'it returns false'. Refute it at one input. -/
def runsNilWrong : ChangeSpec := { name := "runsNil", fn := fun _ => fun
  | [] => { results := [.lit (.bool false)], args := [] }
  | _ => none }
def RunsNilWrongFalsely : Prop := runsNilRow.holds Try.pinned (OpenSpec.ofChange runsNilWrong)

/-- 'heddlelaw04.RunsIters': WHATEVER THE INPUT: true; the input reads as it did. -/
def runsItersSpec : ChangeSpec := { name := "runsIters", fn := fun _ => fun
  | [d1, d2, d3, d4] => { results := [.lit (.bool true)], args := [d1, d2, d3, d4] }
  | _ => none }
def runsItersRow : OpenClaim := { program := "ytkdgekdacinlhaa", sum := "d95fa314c501a1f86b175c5f37273392b6ea83b1440a81f6582fc9c1208a189c", func := "heddle/heddlelaw04.RunsIters", spec := "runsIters", inPlace := ["slices.overlaps[heddle/api.Run]"], unfollowed := true, recurses := true, apart := false }
def RunsItersSaid : Prop := runsItersRow.holds Try.pinned (OpenSpec.ofChange runsItersSpec)

/-- ITS FALSE NEIGHBOUR: 'it returns false'. Refute it at one input. -/
def runsItersWrong : ChangeSpec := { name := "runsIters", fn := fun _ => fun
  | [d1, d2, d3, d4] => { results := [.lit (.bool false)], args := [d1, d2, d3, d4] }
  | _ => none }
def RunsItersWrongFalsely : Prop := runsItersRow.holds Try.pinned (OpenSpec.ofChange runsItersWrong)

/-- 'heddlelaw04.RunsLowest': WHATEVER THE INPUT: true; the input reads as it did. -/
def runsLowestSpec : ChangeSpec := { name := "runsLowest", fn := fun _ => fun
  | [d1, d2, d3] => { results := [.lit (.bool true)], args := [d1, d2, d3] }
  | _ => none }
def runsLowestRow : OpenClaim := { program := "ytkdgekdacinlhaa", sum := "d95fa314c501a1f86b175c5f37273392b6ea83b1440a81f6582fc9c1208a189c", func := "heddle/heddlelaw04.RunsLowest", spec := "runsLowest", inPlace := ["slices.overlaps[heddle/api.Run]"], unfollowed := true, recurses := true, apart := false }
def RunsLowestSaid : Prop := runsLowestRow.holds Try.pinned (OpenSpec.ofChange runsLowestSpec)

/-- ITS FALSE NEIGHBOUR: 'it returns false'. Refute it at one input. -/
def runsLowestWrong : ChangeSpec := { name := "runsLowest", fn := fun _ => fun
  | [d1, d2, d3] => { results := [.lit (.bool false)], args := [d1, d2, d3] }
  | _ => none }
def RunsLowestWrongFalsely : Prop := runsLowestRow.holds Try.pinned (OpenSpec.ofChange runsLowestWrong)

/- THE SECOND FORM. 'bulk': how many values and letters a reading holds, each counted each time it is reached (what is shared counts as often as it is met; a slice's spare places count too). A statement '..UptoSaid' is the law's where the arguments, and the package variables that the reading takes, are together of bulk at most 1048576: NARROWER than '..Said'. Prove '..Said' where nothing that the law and all that it calls make is longer than what came in: it says more and counts as full. Else prove '..UptoSaid'. A law counts once. -/
mutual
def uptoBulk {H : Type} : DataW H → Nat
  | .lit (.string bytes) => bytes.length + 1
  | .lit _ => 1
  | .nil => 1
  | .ptr d => uptoBulk d + 1
  | .slice elems spare => uptoBulkAll elems + uptoBulkAll spare + 1
  | .agg parts => uptoBulkAll parts + 1
  | .iface _ d => uptoBulk d + 1
  | .map entries => uptoBulkEntries entries + 1
  | .held _ => 1
def uptoBulkAll {H : Type} : List (DataW H) → Nat
  | [] => 0
  | d :: r => uptoBulk d + uptoBulkAll r
def uptoBulkEntries {H : Type} : List (Lit × DataW H) → Nat
  | [] => 0
  | x :: r => uptoBulkEntry x + uptoBulkEntries r
def uptoBulkEntry {H : Type} : Lit × DataW H → Nat
  | (.string bytes, d) => bytes.length + uptoBulk d + 1
  | (_, d) => uptoBulk d + 1
 end
def uptoSmall : (H : Type) → List (DataW H) → Bool := fun _ ds => decide (uptoBulkAll ds ≤ 1048576)
def OpenSpec.upto (s : _root_.Go.ChangeSpec) : _root_.Go.OpenSpec := { _root_.Go.OpenSpec.ofChange s with cond := some uptoSmall }

/-- 'heddlelaw04.RunsPlays', WHERE WHAT IT READS IS OF BULK AT MOST 1048576: true; the input reads as it did. -/
def runsPlaysUptoRow : OpenClaim := { program := "ytkdgekdacinlhaa", sum := "d95fa314c501a1f86b175c5f37273392b6ea83b1440a81f6582fc9c1208a189c", func := "heddle/heddlelaw04.RunsPlays", spec := "runsPlays", inPlace := ["slices.overlaps[heddle/api.Run]"], unfollowed := true, recurses := true, apart := false, narrowed := true }
def RunsPlaysUptoSaid : Prop := runsPlaysUptoRow.holds Try.pinned (OpenSpec.upto runsPlaysSpec)

/-- 'heddlelaw04.RunsTile', WHERE WHAT IT READS IS OF BULK AT MOST 1048576: true; the input reads as it did. -/
def runsTileUptoRow : OpenClaim := { program := "ytkdgekdacinlhaa", sum := "d95fa314c501a1f86b175c5f37273392b6ea83b1440a81f6582fc9c1208a189c", func := "heddle/heddlelaw04.RunsTile", spec := "runsTile", inPlace := ["slices.overlaps[heddle/api.Run]"], unfollowed := true, recurses := true, apart := false, narrowed := true }
def RunsTileUptoSaid : Prop := runsTileUptoRow.holds Try.pinned (OpenSpec.upto runsTileSpec)

/-- 'heddlelaw04.RunsBack', WHERE WHAT IT READS IS OF BULK AT MOST 1048576: true; the input reads as it did. -/
def runsBackUptoRow : OpenClaim := { program := "ytkdgekdacinlhaa", sum := "d95fa314c501a1f86b175c5f37273392b6ea83b1440a81f6582fc9c1208a189c", func := "heddle/heddlelaw04.RunsBack", spec := "runsBack", inPlace := ["slices.overlaps[heddle/api.Run]"], unfollowed := true, recurses := true, apart := false, narrowed := true }
def RunsBackUptoSaid : Prop := runsBackUptoRow.holds Try.pinned (OpenSpec.upto runsBackSpec)

/-- 'heddlelaw04.RunsNil', WHERE WHAT IT READS IS OF BULK AT MOST 1048576: true; the input reads as it did. -/
def runsNilUptoRow : OpenClaim := { program := "ytkdgekdacinlhaa", sum := "d95fa314c501a1f86b175c5f37273392b6ea83b1440a81f6582fc9c1208a189c", func := "heddle/heddlelaw04.RunsNil", spec := "runsNil", inPlace := ["slices.overlaps[heddle/api.Run]"], unfollowed := true, recurses := true, apart := false, narrowed := true }
def RunsNilUptoSaid : Prop := runsNilUptoRow.holds Try.pinned (OpenSpec.upto runsNilSpec)

/-- 'heddlelaw04.RunsIters', WHERE WHAT IT READS IS OF BULK AT MOST 1048576: true; the input reads as it did. -/
def runsItersUptoRow : OpenClaim := { program := "ytkdgekdacinlhaa", sum := "d95fa314c501a1f86b175c5f37273392b6ea83b1440a81f6582fc9c1208a189c", func := "heddle/heddlelaw04.RunsIters", spec := "runsIters", inPlace := ["slices.overlaps[heddle/api.Run]"], unfollowed := true, recurses := true, apart := false, narrowed := true }
def RunsItersUptoSaid : Prop := runsItersUptoRow.holds Try.pinned (OpenSpec.upto runsItersSpec)

/-- 'heddlelaw04.RunsLowest', WHERE WHAT IT READS IS OF BULK AT MOST 1048576: true; the input reads as it did. -/
def runsLowestUptoRow : OpenClaim := { program := "ytkdgekdacinlhaa", sum := "d95fa314c501a1f86b175c5f37273392b6ea83b1440a81f6582fc9c1208a189c", func := "heddle/heddlelaw04.RunsLowest", spec := "runsLowest", inPlace := ["slices.overlaps[heddle/api.Run]"], unfollowed := true, recurses := true, apart := false, narrowed := true }
def RunsLowestUptoSaid : Prop := runsLowestUptoRow.holds Try.pinned (OpenSpec.upto runsLowestSpec)

end Rows
end Go.Proofs.Ytkdgekdacinlhaa
