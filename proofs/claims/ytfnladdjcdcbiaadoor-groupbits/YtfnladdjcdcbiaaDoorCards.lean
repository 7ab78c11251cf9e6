/-
  DERIVED. GIVEN WITH THE SEED: THE CARDS: each row of YtfnladdjcdcbiaaDoorRows.lean that lists a variable, with what it lists TIED to the program's text (the seventh form; the later family's looks); each row that meets fmt, with fmt's text TOLD by the authors' own Lean function (tested against real Go, not proved from fmt's source: count such statements apart). THE CARD IS WHAT COUNTS. Prove the row's statement (the work); the ties are given (YtfnladdjcdcbiaaDoorTie.lean); close each card by the builder's one call (the guide's Derived/Test/ToyasCard.lean, 'card_holds'). Laid BY PROGRAM, IN A SANDBOX (cutbox-door.mjs). By AI agents, Wed Nov 11 2026. No macro, syntax, notation, axiom, sorry.
-/
import Derived.Test.YtfnladdjcdcbiaaDoorRows
import GoSem.ClaimSeven
namespace Go.Proofs.YtfnladdjcdcbiaaDoor
namespace Rows

/-- THE TIED CARD OF 'heddlelaw12.GroupPlays'. -/
def groupPlaysCard : Claim7 := { stood := { row := groupPlaysRow, standIns := [], harness := (true, "ef383820e343c32984eb70e948af3ea9414ded8688522a46c8797851dbaa803a"), looks := false }, kinds := [], alts := [], laidByText := true, laidKinds := [.data], laidTests := true, laidLooks := .later }
def GroupPlaysCardSaid : Prop := Claim7.holds Tryd.pinned (.plain (OpenSpec.ofChange groupPlaysSpec)) groupPlaysCard

/-- THE TIED CARD OF 'heddlelaw12.GroupBits'. -/
def groupBitsCard : Claim7 := { stood := { row := groupBitsRow, standIns := [], harness := (true, "ef383820e343c32984eb70e948af3ea9414ded8688522a46c8797851dbaa803a"), looks := false }, kinds := [], alts := [], laidByText := true, laidKinds := [.data], laidTests := true, laidLooks := .later }
def GroupBitsCardSaid : Prop := Claim7.holds Tryd.pinned (.plain (OpenSpec.ofChange groupBitsSpec)) groupBitsCard

/-- THE SECOND FORM's CARD OF 'heddlelaw12.GroupPlays'. -/
def groupPlaysUptoCard : Claim7 := { stood := { row := groupPlaysUptoRow, standIns := [], harness := (true, "ef383820e343c32984eb70e948af3ea9414ded8688522a46c8797851dbaa803a"), looks := false }, kinds := [], alts := [], laidByText := true, laidKinds := [.data], laidTests := true, laidLooks := .later }
def GroupPlaysUptoCardSaid : Prop := Claim7.holds Tryd.pinned (.plain (OpenSpec.upto groupPlaysSpec)) groupPlaysUptoCard

/-- THE SECOND FORM's CARD OF 'heddlelaw12.GroupBits'. -/
def groupBitsUptoCard : Claim7 := { stood := { row := groupBitsUptoRow, standIns := [], harness := (true, "ef383820e343c32984eb70e948af3ea9414ded8688522a46c8797851dbaa803a"), looks := false }, kinds := [], alts := [], laidByText := true, laidKinds := [.data], laidTests := true, laidLooks := .later }
def GroupBitsUptoCardSaid : Prop := Claim7.holds Tryd.pinned (.plain (OpenSpec.upto groupBitsSpec)) groupBitsUptoCard
end Rows
end Go.Proofs.YtfnladdjcdcbiaaDoor
