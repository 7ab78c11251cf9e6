/-
  DERIVED. GIVEN WITH THE SEED: THE CARDS: each row of YtfabhhmeanpmhaaDoorRows.lean that lists a variable, with what it lists TIED to the program's text (the seventh form; the later family's looks); each row that meets fmt, with fmt's text TOLD by the authors' own Lean function (tested against real Go, not proved from fmt's source: count such statements apart). THE CARD IS WHAT COUNTS. Prove the row's statement (the work); the ties are given (YtfabhhmeanpmhaaDoorTie.lean); close each card by the builder's one call (the guide's Derived/Test/ToyasCard.lean, 'card_holds'). Laid BY PROGRAM, IN A SANDBOX (cutbox-door.mjs). By AI agents, Wed Nov 11 2026. No macro, syntax, notation, axiom, sorry.
-/
import Derived.Test.YtfabhhmeanpmhaaDoorRows
import GoSem.ClaimSeven
namespace Go.Proofs.YtfabhhmeanpmhaaDoor
namespace Rows

/-- THE TIED CARD OF 'heddlelaw03.CellsPlays'. -/
def cellsPlaysCard : Claim7 := { stood := { row := cellsPlaysRow, standIns := [], harness := (true, "dd4b8a091b4000614f105e80044fe5e5edd4f30f36025abb3ac9e76e79748915"), looks := false }, kinds := [], alts := [], laidByText := true, laidKinds := [.data, .data, .data, .data], laidTests := true, laidLooks := .later }
def CellsPlaysCardSaid : Prop := Claim7.holds Tryd.pinned (.plain (OpenSpec.ofChange cellsPlaysSpec)) cellsPlaysCard

/-- THE TIED CARD OF 'heddlelaw03.CellsParts'. -/
def cellsPartsCard : Claim7 := { stood := { row := cellsPartsRow, standIns := [], harness := (true, "dd4b8a091b4000614f105e80044fe5e5edd4f30f36025abb3ac9e76e79748915"), looks := false }, kinds := [], alts := [], laidByText := true, laidKinds := [.data, .data, .data, .data], laidTests := true, laidLooks := .later }
def CellsPartsCardSaid : Prop := Claim7.holds Tryd.pinned (.plain (OpenSpec.ofChange cellsPartsSpec)) cellsPartsCard

/-- THE TIED CARD OF 'heddlelaw03.CellsBack'. -/
def cellsBackCard : Claim7 := { stood := { row := cellsBackRow, standIns := [], harness := (true, "dd4b8a091b4000614f105e80044fe5e5edd4f30f36025abb3ac9e76e79748915"), looks := false }, kinds := [], alts := [], laidByText := true, laidKinds := [.data, .data, .data, .data], laidTests := true, laidLooks := .later }
def CellsBackCardSaid : Prop := Claim7.holds Tryd.pinned (.plain (OpenSpec.ofChange cellsBackSpec)) cellsBackCard

/-- THE TIED CARD OF 'heddlelaw03.CellsTexts'. -/
def cellsTextsCard : Claim7 := { stood := { row := cellsTextsRow, standIns := [], harness := (true, "dd4b8a091b4000614f105e80044fe5e5edd4f30f36025abb3ac9e76e79748915"), looks := false }, kinds := [], alts := [], laidByText := true, laidKinds := [.data, .data, .data, .data], laidTests := true, laidLooks := .later }
def CellsTextsCardSaid : Prop := Claim7.holds Tryd.pinned (.plain (OpenSpec.ofChange cellsTextsSpec)) cellsTextsCard

/-- THE TIED CARD OF 'heddlelaw03.CellsKeeps'. -/
def cellsKeepsCard : Claim7 := { stood := { row := cellsKeepsRow, standIns := [], harness := (true, "dd4b8a091b4000614f105e80044fe5e5edd4f30f36025abb3ac9e76e79748915"), looks := false }, kinds := [], alts := [], laidByText := true, laidKinds := [.data, .data, .data, .data], laidTests := true, laidLooks := .later }
def CellsKeepsCardSaid : Prop := Claim7.holds Tryd.pinned (.plain (OpenSpec.ofChange cellsKeepsSpec)) cellsKeepsCard

/-- THE SECOND FORM's CARD OF 'heddlelaw03.CellsPlays'. -/
def cellsPlaysUptoCard : Claim7 := { stood := { row := cellsPlaysUptoRow, standIns := [], harness := (true, "dd4b8a091b4000614f105e80044fe5e5edd4f30f36025abb3ac9e76e79748915"), looks := false }, kinds := [], alts := [], laidByText := true, laidKinds := [.data, .data, .data, .data], laidTests := true, laidLooks := .later }
def CellsPlaysUptoCardSaid : Prop := Claim7.holds Tryd.pinned (.plain (OpenSpec.upto cellsPlaysSpec)) cellsPlaysUptoCard

/-- THE SECOND FORM's CARD OF 'heddlelaw03.CellsParts'. -/
def cellsPartsUptoCard : Claim7 := { stood := { row := cellsPartsUptoRow, standIns := [], harness := (true, "dd4b8a091b4000614f105e80044fe5e5edd4f30f36025abb3ac9e76e79748915"), looks := false }, kinds := [], alts := [], laidByText := true, laidKinds := [.data, .data, .data, .data], laidTests := true, laidLooks := .later }
def CellsPartsUptoCardSaid : Prop := Claim7.holds Tryd.pinned (.plain (OpenSpec.upto cellsPartsSpec)) cellsPartsUptoCard

/-- THE SECOND FORM's CARD OF 'heddlelaw03.CellsBack'. -/
def cellsBackUptoCard : Claim7 := { stood := { row := cellsBackUptoRow, standIns := [], harness := (true, "dd4b8a091b4000614f105e80044fe5e5edd4f30f36025abb3ac9e76e79748915"), looks := false }, kinds := [], alts := [], laidByText := true, laidKinds := [.data, .data, .data, .data], laidTests := true, laidLooks := .later }
def CellsBackUptoCardSaid : Prop := Claim7.holds Tryd.pinned (.plain (OpenSpec.upto cellsBackSpec)) cellsBackUptoCard

/-- THE SECOND FORM's CARD OF 'heddlelaw03.CellsTexts'. -/
def cellsTextsUptoCard : Claim7 := { stood := { row := cellsTextsUptoRow, standIns := [], harness := (true, "dd4b8a091b4000614f105e80044fe5e5edd4f30f36025abb3ac9e76e79748915"), looks := false }, kinds := [], alts := [], laidByText := true, laidKinds := [.data, .data, .data, .data], laidTests := true, laidLooks := .later }
def CellsTextsUptoCardSaid : Prop := Claim7.holds Tryd.pinned (.plain (OpenSpec.upto cellsTextsSpec)) cellsTextsUptoCard

/-- THE SECOND FORM's CARD OF 'heddlelaw03.CellsKeeps'. -/
def cellsKeepsUptoCard : Claim7 := { stood := { row := cellsKeepsUptoRow, standIns := [], harness := (true, "dd4b8a091b4000614f105e80044fe5e5edd4f30f36025abb3ac9e76e79748915"), looks := false }, kinds := [], alts := [], laidByText := true, laidKinds := [.data, .data, .data, .data], laidTests := true, laidLooks := .later }
def CellsKeepsUptoCardSaid : Prop := Claim7.holds Tryd.pinned (.plain (OpenSpec.upto cellsKeepsSpec)) cellsKeepsUptoCard
end Rows
end Go.Proofs.YtfabhhmeanpmhaaDoor
