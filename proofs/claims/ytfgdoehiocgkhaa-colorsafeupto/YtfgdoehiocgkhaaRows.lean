/-
  No cell of these rows narrows 'for every input' (looked for: loops, veiled, ifaces, maps, wideKeys, modest, calm, conditions, laid).
  DERIVED. THE GIVEN ROWS OF THIS SEAT. 6 by the template 'for every input the law returns true; each argument reads behind the call as it read before'; 0 by the template 'total and deterministic' (their statements: YtfgdoehiocgkhaaTotals.lean).
  GIVEN WITH THE SEED: the statements are not yours to turn. If you find one false, say at which input.
  Laid BY PROGRAM, IN A SANDBOX (cutbox-rows.mjs): the forced cells as the released guide's own fill.sh prints them over the translation bbd51214f3fb57f9… (all of the seat's roots in one cut). By AI agents, Wed Nov 11 2026. No macro, syntax, notation, axiom, sorry.
-/
import Derived.Test.YtfgdoehiocgkhaaChecked
import GoSem.Claim
import GoSem.ClaimJoined
import GoSem.ClaimMapViews
import Derived.JoinedTies
import Derived.KernelRfl
namespace Go.Proofs.Ytfgdoehiocgkhaa
/- THE CELL 'sum', in the pinned program and in every row, IS THE sha256 OF THE DUMP (.gsa) THAT YtfgdoehiocgkhaaProg.lean LOADS. Nothing in Lean hashes anything: it is a label: what it is worth is what the hold of that sum in a sandbox is worth. -/
noncomputable def Try.pinned : Pinned := { name := "ytfgdoehiocgkhaa", sum := "bbd51214f3fb57f9d645c07610a60a0e0f3a0c25a06f4acb70fed6d86c37654f", checked := Try.checked }
namespace Rows
def none {H : Type} : Left H := { results := [], args := [] }

/-- 'heddlelaw08.ColorFrees': WHATEVER THE INPUT: true; the input reads as it did. -/
def colorFreesSpec : ChangeSpec := { name := "colorFrees", fn := fun _ => fun
  | [d1, d2, d3] => { results := [.lit (.bool true)], args := [d1, d2, d3] }
  | _ => none }
def colorFreesRow : OpenClaim := { program := "ytfgdoehiocgkhaa", sum := "bbd51214f3fb57f9d645c07610a60a0e0f3a0c25a06f4acb70fed6d86c37654f", func := "heddle/heddlelaw08.ColorFrees", spec := "colorFrees", unfollowed := true, recurses := true, apart := false }
def ColorFreesSaid : Prop := colorFreesRow.holds Try.pinned (OpenSpec.ofChange colorFreesSpec)

/-- ITS FALSE NEIGHBOUR: 'it returns false'. Refute it at one input. -/
def colorFreesWrong : ChangeSpec := { name := "colorFrees", fn := fun _ => fun
  | [d1, d2, d3] => { results := [.lit (.bool false)], args := [d1, d2, d3] }
  | _ => none }
def ColorFreesWrongFalsely : Prop := colorFreesRow.holds Try.pinned (OpenSpec.ofChange colorFreesWrong)

/-- 'heddlelaw08.ColorSafe': WHATEVER THE INPUT: true; the input reads as it did. -/
def colorSafeSpec : ChangeSpec := { name := "colorSafe", fn := fun _ => fun
  | [d1, d2, d3] => { results := [.lit (.bool true)], args := [d1, d2, d3] }
  | _ => none }
def colorSafeRow : OpenClaim := { program := "ytfgdoehiocgkhaa", sum := "bbd51214f3fb57f9d645c07610a60a0e0f3a0c25a06f4acb70fed6d86c37654f", func := "heddle/heddlelaw08.ColorSafe", spec := "colorSafe", unfollowed := true, recurses := true, apart := false }
def ColorSafeSaid : Prop := colorSafeRow.holds Try.pinned (OpenSpec.ofChange colorSafeSpec)

/-- ITS FALSE NEIGHBOUR: 'it returns false'. Refute it at one input. -/
def colorSafeWrong : ChangeSpec := { name := "colorSafe", fn := fun _ => fun
  | [d1, d2, d3] => { results := [.lit (.bool false)], args := [d1, d2, d3] }
  | _ => none }
def ColorSafeWrongFalsely : Prop := colorSafeRow.holds Try.pinned (OpenSpec.ofChange colorSafeWrong)

/-- 'heddlelaw08.ColorEnds': WHATEVER THE INPUT: true; the input reads as it did. -/
def colorEndsSpec : ChangeSpec := { name := "colorEnds", fn := fun _ => fun
  | [d1, d2, d3] => { results := [.lit (.bool true)], args := [d1, d2, d3] }
  | _ => none }
def colorEndsRow : OpenClaim := { program := "ytfgdoehiocgkhaa", sum := "bbd51214f3fb57f9d645c07610a60a0e0f3a0c25a06f4acb70fed6d86c37654f", func := "heddle/heddlelaw08.ColorEnds", spec := "colorEnds", unfollowed := true, recurses := true, apart := false }
def ColorEndsSaid : Prop := colorEndsRow.holds Try.pinned (OpenSpec.ofChange colorEndsSpec)

/-- ITS FALSE NEIGHBOUR: 'it returns false'. Refute it at one input. -/
def colorEndsWrong : ChangeSpec := { name := "colorEnds", fn := fun _ => fun
  | [d1, d2, d3] => { results := [.lit (.bool false)], args := [d1, d2, d3] }
  | _ => none }
def ColorEndsWrongFalsely : Prop := colorEndsRow.holds Try.pinned (OpenSpec.ofChange colorEndsWrong)

/-- 'heddlelaw08.ColorNil': WHATEVER THE INPUT: true; the input reads as it did. -/
def colorNilSpec : ChangeSpec := { name := "colorNil", fn := fun _ => fun
  | [] => { results := [.lit (.bool true)], args := [] }
  | _ => none }
def colorNilRow : OpenClaim := { program := "ytfgdoehiocgkhaa", sum := "bbd51214f3fb57f9d645c07610a60a0e0f3a0c25a06f4acb70fed6d86c37654f", func := "heddle/heddlelaw08.ColorNil", spec := "colorNil", unfollowed := true, recurses := true, apart := false }
def ColorNilSaid : Prop := colorNilRow.holds Try.pinned (OpenSpec.ofChange colorNilSpec)

/-- ITS FALSE NEIGHBOUR: 'it returns false'. Refute it at one input. -/
def colorNilWrong : ChangeSpec := { name := "colorNil", fn := fun _ => fun
  | [] => { results := [.lit (.bool false)], args := [] }
  | _ => none }
def ColorNilWrongFalsely : Prop := colorNilRow.holds Try.pinned (OpenSpec.ofChange colorNilWrong)

/-- 'heddlelaw08.ColorKeeps': WHATEVER THE INPUT: true; the input reads as it did. -/
def colorKeepsSpec : ChangeSpec := { name := "colorKeeps", fn := fun _ => fun
  | [d1, d2, d3] => { results := [.lit (.bool true)], args := [d1, d2, d3] }
  | _ => none }
def colorKeepsRow : OpenClaim := { program := "ytfgdoehiocgkhaa", sum := "bbd51214f3fb57f9d645c07610a60a0e0f3a0c25a06f4acb70fed6d86c37654f", func := "heddle/heddlelaw08.ColorKeeps", spec := "colorKeeps", unfollowed := true, recurses := true, apart := false }
def ColorKeepsSaid : Prop := colorKeepsRow.holds Try.pinned (OpenSpec.ofChange colorKeepsSpec)

/-- ITS FALSE NEIGHBOUR: 'it returns false'. Refute it at one input. -/
def colorKeepsWrong : ChangeSpec := { name := "colorKeeps", fn := fun _ => fun
  | [d1, d2, d3] => { results := [.lit (.bool false)], args := [d1, d2, d3] }
  | _ => none }
def ColorKeepsWrongFalsely : Prop := colorKeepsRow.holds Try.pinned (OpenSpec.ofChange colorKeepsWrong)

/-- 'heddlelaw08.ColorCuts': WHATEVER THE INPUT: true; the input reads as it did. -/
def colorCutsSpec : ChangeSpec := { name := "colorCuts", fn := fun _ => fun
  | [d1, d2, d3] => { results := [.lit (.bool true)], args := [d1, d2, d3] }
  | _ => none }
def colorCutsRow : OpenClaim := { program := "ytfgdoehiocgkhaa", sum := "bbd51214f3fb57f9d645c07610a60a0e0f3a0c25a06f4acb70fed6d86c37654f", func := "heddle/heddlelaw08.ColorCuts", spec := "colorCuts", unfollowed := true, recurses := true, apart := false }
def ColorCutsSaid : Prop := colorCutsRow.holds Try.pinned (OpenSpec.ofChange colorCutsSpec)

/-- ITS FALSE NEIGHBOUR: 'it returns false'. Refute it at one input. -/
def colorCutsWrong : ChangeSpec := { name := "colorCuts", fn := fun _ => fun
  | [d1, d2, d3] => { results := [.lit (.bool false)], args := [d1, d2, d3] }
  | _ => none }
def ColorCutsWrongFalsely : Prop := colorCutsRow.holds Try.pinned (OpenSpec.ofChange colorCutsWrong)

/- THE SECOND FORM. 'bulk': how many values and letters a reading holds, each counted each time it is reached (what is shared counts as often as it is met; a slice's spare places count too). A statement '..UptoSaid' is the law's where the arguments, and the package variables that the reading takes, are together of bulk at most 1048576: NARROWER than '..Said'. Prove '..Said' where nothing that the law and all that it calls make is longer than what came in: it says more and counts as full. Else prove '..UptoSaid'. A law counts once. -/
mutual
def uptoBulk {H : Type} : DataW H → Nat
  | .lit (.string bytes) => bytes.length + 1
  | .lit _ => 1
  | .nil => 1
  | .ptr d => uptoBulk d + 1
  | .slice elems spare => uptoBulkAll elems + uptoBulkAll spare + 1
  | .agg parts => uptoBulkAll parts + 1
  | .iface _ d => uptoBulk d + 1
  | .map entries => uptoBulkEntries entries + 1
  | .held _ => 1
def uptoBulkAll {H : Type} : List (DataW H) → Nat
  | [] => 0
  | d :: r => uptoBulk d + uptoBulkAll r
def uptoBulkEntries {H : Type} : List (Lit × DataW H) → Nat
  | [] => 0
  | x :: r => uptoBulkEntry x + uptoBulkEntries r
def uptoBulkEntry {H : Type} : Lit × DataW H → Nat
  | (.string bytes, d) => bytes.length + uptoBulk d + 1
  | (_, d) => uptoBulk d + 1
 end
def uptoSmall : (H : Type) → List (DataW H) → Bool := fun _ ds => decide (uptoBulkAll ds ≤ 1048576)
def OpenSpec.upto (s : _root_.Go.ChangeSpec) : _root_.Go.OpenSpec := { _root_.Go.OpenSpec.ofChange s with cond := some uptoSmall }

/-- 'heddlelaw08.ColorFrees', WHERE WHAT IT READS IS OF BULK AT MOST 1048576: true; the input reads as it did. -/
def colorFreesUptoRow : OpenClaim := { program := "ytfgdoehiocgkhaa", sum := "bbd51214f3fb57f9d645c07610a60a0e0f3a0c25a06f4acb70fed6d86c37654f", func := "heddle/heddlelaw08.ColorFrees", spec := "colorFrees", unfollowed := true, recurses := true, apart := false, narrowed := true }
def ColorFreesUptoSaid : Prop := colorFreesUptoRow.holds Try.pinned (OpenSpec.upto colorFreesSpec)

/-- 'heddlelaw08.ColorSafe', WHERE WHAT IT READS IS OF BULK AT MOST 1048576: true; the input reads as it did. -/
def colorSafeUptoRow : OpenClaim := { program := "ytfgdoehiocgkhaa", sum := "bbd51214f3fb57f9d645c07610a60a0e0f3a0c25a06f4acb70fed6d86c37654f", func := "heddle/heddlelaw08.ColorSafe", spec := "colorSafe", unfollowed := true, recurses := true, apart := false, narrowed := true }
def ColorSafeUptoSaid : Prop := colorSafeUptoRow.holds Try.pinned (OpenSpec.upto colorSafeSpec)

/-- 'heddlelaw08.ColorEnds', WHERE WHAT IT READS IS OF BULK AT MOST 1048576: true; the input reads as it did. -/
def colorEndsUptoRow : OpenClaim := { program := "ytfgdoehiocgkhaa", sum := "bbd51214f3fb57f9d645c07610a60a0e0f3a0c25a06f4acb70fed6d86c37654f", func := "heddle/heddlelaw08.ColorEnds", spec := "colorEnds", unfollowed := true, recurses := true, apart := false, narrowed := true }
def ColorEndsUptoSaid : Prop := colorEndsUptoRow.holds Try.pinned (OpenSpec.upto colorEndsSpec)

/-- 'heddlelaw08.ColorNil', WHERE WHAT IT READS IS OF BULK AT MOST 1048576: true; the input reads as it did. -/
def colorNilUptoRow : OpenClaim := { program := "ytfgdoehiocgkhaa", sum := "bbd51214f3fb57f9d645c07610a60a0e0f3a0c25a06f4acb70fed6d86c37654f", func := "heddle/heddlelaw08.ColorNil", spec := "colorNil", unfollowed := true, recurses := true, apart := false, narrowed := true }
def ColorNilUptoSaid : Prop := colorNilUptoRow.holds Try.pinned (OpenSpec.upto colorNilSpec)

/-- 'heddlelaw08.ColorKeeps', WHERE WHAT IT READS IS OF BULK AT MOST 1048576: true; the input reads as it did. -/
def colorKeepsUptoRow : OpenClaim := { program := "ytfgdoehiocgkhaa", sum := "bbd51214f3fb57f9d645c07610a60a0e0f3a0c25a06f4acb70fed6d86c37654f", func := "heddle/heddlelaw08.ColorKeeps", spec := "colorKeeps", unfollowed := true, recurses := true, apart := false, narrowed := true }
def ColorKeepsUptoSaid : Prop := colorKeepsUptoRow.holds Try.pinned (OpenSpec.upto colorKeepsSpec)

/-- 'heddlelaw08.ColorCuts', WHERE WHAT IT READS IS OF BULK AT MOST 1048576: true; the input reads as it did. -/
def colorCutsUptoRow : OpenClaim := { program := "ytfgdoehiocgkhaa", sum := "bbd51214f3fb57f9d645c07610a60a0e0f3a0c25a06f4acb70fed6d86c37654f", func := "heddle/heddlelaw08.ColorCuts", spec := "colorCuts", unfollowed := true, recurses := true, apart := false, narrowed := true }
def ColorCutsUptoSaid : Prop := colorCutsUptoRow.holds Try.pinned (OpenSpec.upto colorCutsSpec)

end Rows
end Go.Proofs.Ytfgdoehiocgkhaa
