/-
  NARROWER THAN 'FOR EVERY INPUT', by the rows' own cells (each row's printed sentence says how): OpsArith: loops.
  DERIVED. THE GIVEN ROWS OF THIS SEAT. 4 by the template 'for every input the law returns true; each argument reads behind the call as it read before'; 0 by the template 'total and deterministic' (their statements: YtdedehfeekpioaaTotals.lean).
  GIVEN WITH THE SEED: the statements are not yours to turn. If you find one false, say at which input.
  Laid BY PROGRAM, IN A SANDBOX (cutbox-rows.mjs): the forced cells as the released guide's own fill.sh prints them over the translation 39bede9893da767a… (all of the seat's roots in one cut). By AI agents, Wed Nov 11 2026. No macro, syntax, notation, axiom, sorry.
-/
import Derived.Test.YtdedehfeekpioaaChecked
import GoSem.Claim
import GoSem.ClaimJoined
import GoSem.ClaimMapViews
import Derived.JoinedTies
import Derived.KernelRfl
namespace Go.Proofs.Ytdedehfeekpioaa
/- THE CELL 'sum', in the pinned program and in every row, IS THE sha256 OF THE DUMP (.gsa) THAT YtdedehfeekpioaaProg.lean LOADS. Nothing in Lean hashes anything: it is a label: what it is worth is what the hold of that sum in a sandbox is worth. -/
noncomputable def Try.pinned : Pinned := { name := "ytdedehfeekpioaa", sum := "39bede9893da767ad61b76a63bd169c2b798dac7bf2edabf5f77f7b63659c2f2", checked := Try.checked }
namespace Rows
def none {H : Type} : Left H := { results := [], args := [] }

/-- 'heddlelaw11.OpsArith': WHATEVER THE INPUT: true; the input reads as it did. -/
def opsArithSpec : ChangeSpec := { name := "opsArith", fn := fun _ => fun
  | [d1, d2, d3] => { results := [.lit (.bool true)], args := [d1, d2, d3] }
  | _ => none }
def opsArithRow : OpenClaim := { program := "ytdedehfeekpioaa", sum := "39bede9893da767ad61b76a63bd169c2b798dac7bf2edabf5f77f7b63659c2f2", func := "heddle/heddlelaw11.OpsArith", spec := "opsArith", inPlace := ["math.Float64frombits", "math.Float64bits"], recurses := true, loops := true, apart := false }
def OpsArithSaid : Prop := opsArithRow.holds Try.pinned (OpenSpec.ofChange opsArithSpec)

/-- ITS FALSE NEIGHBOUR: 'it returns false'. Refute it at one input. -/
def opsArithWrong : ChangeSpec := { name := "opsArith", fn := fun _ => fun
  | [d1, d2, d3] => { results := [.lit (.bool false)], args := [d1, d2, d3] }
  | _ => none }
def OpsArithWrongFalsely : Prop := opsArithRow.holds Try.pinned (OpenSpec.ofChange opsArithWrong)

/-- 'heddlelaw11.OpsTexts': WHATEVER THE INPUT: true; the input reads as it did. -/
def opsTextsSpec : ChangeSpec := { name := "opsTexts", fn := fun _ => fun
  | [d1, d2, d3, d4] => { results := [.lit (.bool true)], args := [d1, d2, d3, d4] }
  | _ => none }
def opsTextsRow : OpenClaim := { program := "ytdedehfeekpioaa", sum := "39bede9893da767ad61b76a63bd169c2b798dac7bf2edabf5f77f7b63659c2f2", func := "heddle/heddlelaw11.OpsTexts", spec := "opsTexts", inPlace := ["math.Float64frombits", "math.Float64bits"], apart := false }
def OpsTextsSaid : Prop := opsTextsRow.holds Try.pinned (OpenSpec.ofChange opsTextsSpec)

/-- ITS FALSE NEIGHBOUR: 'it returns false'. Refute it at one input. -/
def opsTextsWrong : ChangeSpec := { name := "opsTexts", fn := fun _ => fun
  | [d1, d2, d3, d4] => { results := [.lit (.bool false)], args := [d1, d2, d3, d4] }
  | _ => none }
def OpsTextsWrongFalsely : Prop := opsTextsRow.holds Try.pinned (OpenSpec.ofChange opsTextsWrong)

/-- 'heddlelaw11.OpsCuts': WHATEVER THE INPUT: true; the input reads as it did. -/
def opsCutsSpec : ChangeSpec := { name := "opsCuts", fn := fun _ => fun
  | [d1, d2, d3] => { results := [.lit (.bool true)], args := [d1, d2, d3] }
  | _ => none }
def opsCutsRow : OpenClaim := { program := "ytdedehfeekpioaa", sum := "39bede9893da767ad61b76a63bd169c2b798dac7bf2edabf5f77f7b63659c2f2", func := "heddle/heddlelaw11.OpsCuts", spec := "opsCuts", inPlace := ["math.Float64frombits", "math.Float64bits"], apart := false }
def OpsCutsSaid : Prop := opsCutsRow.holds Try.pinned (OpenSpec.ofChange opsCutsSpec)

/-- ITS FALSE NEIGHBOUR: 'it returns false'. Refute it at one input. -/
def opsCutsWrong : ChangeSpec := { name := "opsCuts", fn := fun _ => fun
  | [d1, d2, d3] => { results := [.lit (.bool false)], args := [d1, d2, d3] }
  | _ => none }
def OpsCutsWrongFalsely : Prop := opsCutsRow.holds Try.pinned (OpenSpec.ofChange opsCutsWrong)

/-- 'heddlelaw11.OpsLaws': WHATEVER THE INPUT: true; the input reads as it did. -/
def opsLawsSpec : ChangeSpec := { name := "opsLaws", fn := fun _ => fun
  | [d1, d2, d3] => { results := [.lit (.bool true)], args := [d1, d2, d3] }
  | _ => none }
def opsLawsRow : OpenClaim := { program := "ytdedehfeekpioaa", sum := "39bede9893da767ad61b76a63bd169c2b798dac7bf2edabf5f77f7b63659c2f2", func := "heddle/heddlelaw11.OpsLaws", spec := "opsLaws", inPlace := ["math.Float64frombits", "math.Float64bits"], unfollowed := true, recurses := true, apart := false }
def OpsLawsSaid : Prop := opsLawsRow.holds Try.pinned (OpenSpec.ofChange opsLawsSpec)

/-- ITS FALSE NEIGHBOUR: 'it returns false'. Refute it at one input. -/
def opsLawsWrong : ChangeSpec := { name := "opsLaws", fn := fun _ => fun
  | [d1, d2, d3] => { results := [.lit (.bool false)], args := [d1, d2, d3] }
  | _ => none }
def OpsLawsWrongFalsely : Prop := opsLawsRow.holds Try.pinned (OpenSpec.ofChange opsLawsWrong)

/- THE SECOND FORM. 'bulk': how many values and letters a reading holds, each counted each time it is reached (what is shared counts as often as it is met; a slice's spare places count too). A statement '..UptoSaid' is the law's where the arguments, and the package variables that the reading takes, are together of bulk at most 1048576: NARROWER than '..Said'. Prove '..Said' where nothing that the law and all that it calls make is longer than what came in: it says more and counts as full. Else prove '..UptoSaid'. A law counts once. -/
mutual
def uptoBulk {H : Type} : DataW H → Nat
  | .lit (.string bytes) => bytes.length + 1
  | .lit _ => 1
  | .nil => 1
  | .ptr d => uptoBulk d + 1
  | .slice elems spare => uptoBulkAll elems + uptoBulkAll spare + 1
  | .agg parts => uptoBulkAll parts + 1
  | .iface _ d => uptoBulk d + 1
  | .map entries => uptoBulkEntries entries + 1
  | .held _ => 1
def uptoBulkAll {H : Type} : List (DataW H) → Nat
  | [] => 0
  | d :: r => uptoBulk d + uptoBulkAll r
def uptoBulkEntries {H : Type} : List (Lit × DataW H) → Nat
  | [] => 0
  | x :: r => uptoBulkEntry x + uptoBulkEntries r
def uptoBulkEntry {H : Type} : Lit × DataW H → Nat
  | (.string bytes, d) => bytes.length + uptoBulk d + 1
  | (_, d) => uptoBulk d + 1
 end
def uptoSmall : (H : Type) → List (DataW H) → Bool := fun _ ds => decide (uptoBulkAll ds ≤ 1048576)
def OpenSpec.upto (s : _root_.Go.ChangeSpec) : _root_.Go.OpenSpec := { _root_.Go.OpenSpec.ofChange s with cond := some uptoSmall }

/-- 'heddlelaw11.OpsArith', WHERE WHAT IT READS IS OF BULK AT MOST 1048576: true; the input reads as it did. -/
def opsArithUptoRow : OpenClaim := { program := "ytdedehfeekpioaa", sum := "39bede9893da767ad61b76a63bd169c2b798dac7bf2edabf5f77f7b63659c2f2", func := "heddle/heddlelaw11.OpsArith", spec := "opsArith", inPlace := ["math.Float64frombits", "math.Float64bits"], recurses := true, loops := true, apart := false, narrowed := true }
def OpsArithUptoSaid : Prop := opsArithUptoRow.holds Try.pinned (OpenSpec.upto opsArithSpec)

/-- 'heddlelaw11.OpsTexts', WHERE WHAT IT READS IS OF BULK AT MOST 1048576: true; the input reads as it did. -/
def opsTextsUptoRow : OpenClaim := { program := "ytdedehfeekpioaa", sum := "39bede9893da767ad61b76a63bd169c2b798dac7bf2edabf5f77f7b63659c2f2", func := "heddle/heddlelaw11.OpsTexts", spec := "opsTexts", inPlace := ["math.Float64frombits", "math.Float64bits"], apart := false, narrowed := true }
def OpsTextsUptoSaid : Prop := opsTextsUptoRow.holds Try.pinned (OpenSpec.upto opsTextsSpec)

/-- 'heddlelaw11.OpsCuts', WHERE WHAT IT READS IS OF BULK AT MOST 1048576: true; the input reads as it did. -/
def opsCutsUptoRow : OpenClaim := { program := "ytdedehfeekpioaa", sum := "39bede9893da767ad61b76a63bd169c2b798dac7bf2edabf5f77f7b63659c2f2", func := "heddle/heddlelaw11.OpsCuts", spec := "opsCuts", inPlace := ["math.Float64frombits", "math.Float64bits"], apart := false, narrowed := true }
def OpsCutsUptoSaid : Prop := opsCutsUptoRow.holds Try.pinned (OpenSpec.upto opsCutsSpec)

/-- 'heddlelaw11.OpsLaws', WHERE WHAT IT READS IS OF BULK AT MOST 1048576: true; the input reads as it did. -/
def opsLawsUptoRow : OpenClaim := { program := "ytdedehfeekpioaa", sum := "39bede9893da767ad61b76a63bd169c2b798dac7bf2edabf5f77f7b63659c2f2", func := "heddle/heddlelaw11.OpsLaws", spec := "opsLaws", inPlace := ["math.Float64frombits", "math.Float64bits"], unfollowed := true, recurses := true, apart := false, narrowed := true }
def OpsLawsUptoSaid : Prop := opsLawsUptoRow.holds Try.pinned (OpenSpec.upto opsLawsSpec)

end Rows
end Go.Proofs.Ytdedehfeekpioaa
