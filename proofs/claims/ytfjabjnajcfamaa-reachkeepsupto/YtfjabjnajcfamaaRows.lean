/-
  No cell of these rows narrows 'for every input' (looked for: loops, veiled, ifaces, maps, wideKeys, modest, calm, conditions, laid).
  DERIVED. THE GIVEN ROWS OF THIS SEAT. 6 by the template 'for every input the law returns true; each argument reads behind the call as it read before'; 0 by the template 'total and deterministic' (their statements: YtfjabjnajcfamaaTotals.lean).
  GIVEN WITH THE SEED: the statements are not yours to turn. If you find one false, say at which input.
  Laid BY PROGRAM, IN A SANDBOX (cutbox-rows.mjs): the forced cells as the released guide's own fill.sh prints them over the translation 0f68a28f707e4adc… (all of the seat's roots in one cut). By AI agents, Wed Nov 11 2026. No macro, syntax, notation, axiom, sorry.
-/
import Derived.Test.YtfjabjnajcfamaaChecked
import GoSem.Claim
import GoSem.ClaimJoined
import GoSem.ClaimMapViews
import Derived.JoinedTies
import Derived.KernelRfl
namespace Go.Proofs.Ytfjabjnajcfamaa
/- THE CELL 'sum', in the pinned program and in every row, IS THE sha256 OF THE DUMP (.gsa) THAT YtfjabjnajcfamaaProg.lean LOADS. Nothing in Lean hashes anything: it is a label: what it is worth is what the hold of that sum in a sandbox is worth. -/
noncomputable def Try.pinned : Pinned := { name := "ytfjabjnajcfamaa", sum := "0f68a28f707e4adc9cd0e5f8c18992825e91d8e45ba8683722f0964ca3192533", checked := Try.checked }
namespace Rows
def none {H : Type} : Left H := { results := [], args := [] }

/-- 'heddlelaw07.ReachPlays': WHATEVER THE INPUT: true; the input reads as it did. -/
def reachPlaysSpec : ChangeSpec := { name := "reachPlays", fn := fun _ => fun
  | [d1, d2, d3] => { results := [.lit (.bool true)], args := [d1, d2, d3] }
  | _ => none }
def reachPlaysRow : OpenClaim := { program := "ytfjabjnajcfamaa", sum := "0f68a28f707e4adc9cd0e5f8c18992825e91d8e45ba8683722f0964ca3192533", func := "heddle/heddlelaw07.ReachPlays", spec := "reachPlays", unfollowed := true, recurses := true, apart := false }
def ReachPlaysSaid : Prop := reachPlaysRow.holds Try.pinned (OpenSpec.ofChange reachPlaysSpec)

/-- ITS FALSE NEIGHBOUR: 'it returns false'. Refute it at one input. -/
def reachPlaysWrong : ChangeSpec := { name := "reachPlays", fn := fun _ => fun
  | [d1, d2, d3] => { results := [.lit (.bool false)], args := [d1, d2, d3] }
  | _ => none }
def ReachPlaysWrongFalsely : Prop := reachPlaysRow.holds Try.pinned (OpenSpec.ofChange reachPlaysWrong)

/-- 'heddlelaw07.ReachSet': WHATEVER THE INPUT: true; the input reads as it did. -/
def reachSetSpec : ChangeSpec := { name := "reachSet", fn := fun _ => fun
  | [d1, d2, d3] => { results := [.lit (.bool true)], args := [d1, d2, d3] }
  | _ => none }
def reachSetRow : OpenClaim := { program := "ytfjabjnajcfamaa", sum := "0f68a28f707e4adc9cd0e5f8c18992825e91d8e45ba8683722f0964ca3192533", func := "heddle/heddlelaw07.ReachSet", spec := "reachSet", unfollowed := true, recurses := true, apart := false }
def ReachSetSaid : Prop := reachSetRow.holds Try.pinned (OpenSpec.ofChange reachSetSpec)

/-- ITS FALSE NEIGHBOUR: 'it returns false'. Refute it at one input. -/
def reachSetWrong : ChangeSpec := { name := "reachSet", fn := fun _ => fun
  | [d1, d2, d3] => { results := [.lit (.bool false)], args := [d1, d2, d3] }
  | _ => none }
def ReachSetWrongFalsely : Prop := reachSetRow.holds Try.pinned (OpenSpec.ofChange reachSetWrong)

/-- 'heddlelaw07.ReachWay': WHATEVER THE INPUT: true; the input reads as it did. -/
def reachWaySpec : ChangeSpec := { name := "reachWay", fn := fun _ => fun
  | [d1, d2, d3, d4] => { results := [.lit (.bool true)], args := [d1, d2, d3, d4] }
  | _ => none }
def reachWayRow : OpenClaim := { program := "ytfjabjnajcfamaa", sum := "0f68a28f707e4adc9cd0e5f8c18992825e91d8e45ba8683722f0964ca3192533", func := "heddle/heddlelaw07.ReachWay", spec := "reachWay", unfollowed := true, recurses := true, apart := false }
def ReachWaySaid : Prop := reachWayRow.holds Try.pinned (OpenSpec.ofChange reachWaySpec)

/-- ITS FALSE NEIGHBOUR: 'it returns false'. Refute it at one input. -/
def reachWayWrong : ChangeSpec := { name := "reachWay", fn := fun _ => fun
  | [d1, d2, d3, d4] => { results := [.lit (.bool false)], args := [d1, d2, d3, d4] }
  | _ => none }
def ReachWayWrongFalsely : Prop := reachWayRow.holds Try.pinned (OpenSpec.ofChange reachWayWrong)

/-- 'heddlelaw07.ReachLost': WHATEVER THE INPUT: true; the input reads as it did. -/
def reachLostSpec : ChangeSpec := { name := "reachLost", fn := fun _ => fun
  | [d1, d2, d3, d4] => { results := [.lit (.bool true)], args := [d1, d2, d3, d4] }
  | _ => none }
def reachLostRow : OpenClaim := { program := "ytfjabjnajcfamaa", sum := "0f68a28f707e4adc9cd0e5f8c18992825e91d8e45ba8683722f0964ca3192533", func := "heddle/heddlelaw07.ReachLost", spec := "reachLost", unfollowed := true, recurses := true, apart := false }
def ReachLostSaid : Prop := reachLostRow.holds Try.pinned (OpenSpec.ofChange reachLostSpec)

/-- ITS FALSE NEIGHBOUR: 'it returns false'. Refute it at one input. -/
def reachLostWrong : ChangeSpec := { name := "reachLost", fn := fun _ => fun
  | [d1, d2, d3, d4] => { results := [.lit (.bool false)], args := [d1, d2, d3, d4] }
  | _ => none }
def ReachLostWrongFalsely : Prop := reachLostRow.holds Try.pinned (OpenSpec.ofChange reachLostWrong)

/-- 'heddlelaw07.ReachOrder': WHATEVER THE INPUT: true; the input reads as it did. -/
def reachOrderSpec : ChangeSpec := { name := "reachOrder", fn := fun _ => fun
  | [d1, d2] => { results := [.lit (.bool true)], args := [d1, d2] }
  | _ => none }
def reachOrderRow : OpenClaim := { program := "ytfjabjnajcfamaa", sum := "0f68a28f707e4adc9cd0e5f8c18992825e91d8e45ba8683722f0964ca3192533", func := "heddle/heddlelaw07.ReachOrder", spec := "reachOrder", unfollowed := true, recurses := true, apart := false }
def ReachOrderSaid : Prop := reachOrderRow.holds Try.pinned (OpenSpec.ofChange reachOrderSpec)

/-- ITS FALSE NEIGHBOUR: 'it returns false'. Refute it at one input. -/
def reachOrderWrong : ChangeSpec := { name := "reachOrder", fn := fun _ => fun
  | [d1, d2] => { results := [.lit (.bool false)], args := [d1, d2] }
  | _ => none }
def ReachOrderWrongFalsely : Prop := reachOrderRow.holds Try.pinned (OpenSpec.ofChange reachOrderWrong)

/-- 'heddlelaw07.ReachKeeps': WHATEVER THE INPUT: true; the input reads as it did. -/
def reachKeepsSpec : ChangeSpec := { name := "reachKeeps", fn := fun _ => fun
  | [d1, d2, d3, d4] => { results := [.lit (.bool true)], args := [d1, d2, d3, d4] }
  | _ => none }
def reachKeepsRow : OpenClaim := { program := "ytfjabjnajcfamaa", sum := "0f68a28f707e4adc9cd0e5f8c18992825e91d8e45ba8683722f0964ca3192533", func := "heddle/heddlelaw07.ReachKeeps", spec := "reachKeeps", unfollowed := true, recurses := true, apart := false }
def ReachKeepsSaid : Prop := reachKeepsRow.holds Try.pinned (OpenSpec.ofChange reachKeepsSpec)

/-- ITS FALSE NEIGHBOUR: 'it returns false'. Refute it at one input. -/
def reachKeepsWrong : ChangeSpec := { name := "reachKeeps", fn := fun _ => fun
  | [d1, d2, d3, d4] => { results := [.lit (.bool false)], args := [d1, d2, d3, d4] }
  | _ => none }
def ReachKeepsWrongFalsely : Prop := reachKeepsRow.holds Try.pinned (OpenSpec.ofChange reachKeepsWrong)

/- THE SECOND FORM. 'bulk': how many values and letters a reading holds, each counted each time it is reached (what is shared counts as often as it is met; a slice's spare places count too). A statement '..UptoSaid' is the law's where the arguments, and the package variables that the reading takes, are together of bulk at most 1048576: NARROWER than '..Said'. Prove '..Said' where nothing that the law and all that it calls make is longer than what came in: it says more and counts as full. Else prove '..UptoSaid'. A law counts once. -/
mutual
def uptoBulk {H : Type} : DataW H → Nat
  | .lit (.string bytes) => bytes.length + 1
  | .lit _ => 1
  | .nil => 1
  | .ptr d => uptoBulk d + 1
  | .slice elems spare => uptoBulkAll elems + uptoBulkAll spare + 1
  | .agg parts => uptoBulkAll parts + 1
  | .iface _ d => uptoBulk d + 1
  | .map entries => uptoBulkEntries entries + 1
  | .held _ => 1
def uptoBulkAll {H : Type} : List (DataW H) → Nat
  | [] => 0
  | d :: r => uptoBulk d + uptoBulkAll r
def uptoBulkEntries {H : Type} : List (Lit × DataW H) → Nat
  | [] => 0
  | x :: r => uptoBulkEntry x + uptoBulkEntries r
def uptoBulkEntry {H : Type} : Lit × DataW H → Nat
  | (.string bytes, d) => bytes.length + uptoBulk d + 1
  | (_, d) => uptoBulk d + 1
 end
def uptoSmall : (H : Type) → List (DataW H) → Bool := fun _ ds => decide (uptoBulkAll ds ≤ 1048576)
def OpenSpec.upto (s : _root_.Go.ChangeSpec) : _root_.Go.OpenSpec := { _root_.Go.OpenSpec.ofChange s with cond := some uptoSmall }

/-- 'heddlelaw07.ReachPlays', WHERE WHAT IT READS IS OF BULK AT MOST 1048576: true; the input reads as it did. -/
def reachPlaysUptoRow : OpenClaim := { program := "ytfjabjnajcfamaa", sum := "0f68a28f707e4adc9cd0e5f8c18992825e91d8e45ba8683722f0964ca3192533", func := "heddle/heddlelaw07.ReachPlays", spec := "reachPlays", unfollowed := true, recurses := true, apart := false, narrowed := true }
def ReachPlaysUptoSaid : Prop := reachPlaysUptoRow.holds Try.pinned (OpenSpec.upto reachPlaysSpec)

/-- 'heddlelaw07.ReachSet', WHERE WHAT IT READS IS OF BULK AT MOST 1048576: true; the input reads as it did. -/
def reachSetUptoRow : OpenClaim := { program := "ytfjabjnajcfamaa", sum := "0f68a28f707e4adc9cd0e5f8c18992825e91d8e45ba8683722f0964ca3192533", func := "heddle/heddlelaw07.ReachSet", spec := "reachSet", unfollowed := true, recurses := true, apart := false, narrowed := true }
def ReachSetUptoSaid : Prop := reachSetUptoRow.holds Try.pinned (OpenSpec.upto reachSetSpec)

/-- 'heddlelaw07.ReachWay', WHERE WHAT IT READS IS OF BULK AT MOST 1048576: true; the input reads as it did. -/
def reachWayUptoRow : OpenClaim := { program := "ytfjabjnajcfamaa", sum := "0f68a28f707e4adc9cd0e5f8c18992825e91d8e45ba8683722f0964ca3192533", func := "heddle/heddlelaw07.ReachWay", spec := "reachWay", unfollowed := true, recurses := true, apart := false, narrowed := true }
def ReachWayUptoSaid : Prop := reachWayUptoRow.holds Try.pinned (OpenSpec.upto reachWaySpec)

/-- 'heddlelaw07.ReachLost', WHERE WHAT IT READS IS OF BULK AT MOST 1048576: true; the input reads as it did. -/
def reachLostUptoRow : OpenClaim := { program := "ytfjabjnajcfamaa", sum := "0f68a28f707e4adc9cd0e5f8c18992825e91d8e45ba8683722f0964ca3192533", func := "heddle/heddlelaw07.ReachLost", spec := "reachLost", unfollowed := true, recurses := true, apart := false, narrowed := true }
def ReachLostUptoSaid : Prop := reachLostUptoRow.holds Try.pinned (OpenSpec.upto reachLostSpec)

/-- 'heddlelaw07.ReachOrder', WHERE WHAT IT READS IS OF BULK AT MOST 1048576: true; the input reads as it did. -/
def reachOrderUptoRow : OpenClaim := { program := "ytfjabjnajcfamaa", sum := "0f68a28f707e4adc9cd0e5f8c18992825e91d8e45ba8683722f0964ca3192533", func := "heddle/heddlelaw07.ReachOrder", spec := "reachOrder", unfollowed := true, recurses := true, apart := false, narrowed := true }
def ReachOrderUptoSaid : Prop := reachOrderUptoRow.holds Try.pinned (OpenSpec.upto reachOrderSpec)

/-- 'heddlelaw07.ReachKeeps', WHERE WHAT IT READS IS OF BULK AT MOST 1048576: true; the input reads as it did. -/
def reachKeepsUptoRow : OpenClaim := { program := "ytfjabjnajcfamaa", sum := "0f68a28f707e4adc9cd0e5f8c18992825e91d8e45ba8683722f0964ca3192533", func := "heddle/heddlelaw07.ReachKeeps", spec := "reachKeeps", unfollowed := true, recurses := true, apart := false, narrowed := true }
def ReachKeepsUptoSaid : Prop := reachKeepsUptoRow.holds Try.pinned (OpenSpec.upto reachKeepsSpec)

end Rows
end Go.Proofs.Ytfjabjnajcfamaa
