/-
  DERIVED. GIVEN WITH THE SEED: THE CARDS: each row of YtfjbhpjgidgjaaaDoorRows.lean that lists a variable, with what it lists TIED to the program's text (the seventh form; the later family's looks); each row that meets fmt, with fmt's text TOLD by the authors' own Lean function (tested against real Go, not proved from fmt's source: count such statements apart). THE CARD IS WHAT COUNTS. Prove the row's statement (the work); the ties are given (YtfjbhpjgidgjaaaDoorTie.lean); close each card by the builder's one call (the guide's Derived/Test/ToyasCard.lean, 'card_holds'). Laid BY PROGRAM, IN A SANDBOX (cutbox-door.mjs). By AI agents, Wed Nov 11 2026. No macro, syntax, notation, axiom, sorry.
-/
import Derived.Test.YtfjbhpjgidgjaaaDoorRows
import GoSem.ClaimSeven
namespace Go.Proofs.YtfjbhpjgidgjaaaDoor
namespace Rows

/-- THE TIED CARD OF 'heddlelaw02.TypesPlays'. -/
def typesPlaysCard : Claim7 := { stood := { row := typesPlaysRow, standIns := [], harness := (true, "dccc4470837eee4712a4c475a00d14631d066eb7b5e192dd9888e39c476ec522"), looks := false }, kinds := [], alts := [], laidByText := true, laidKinds := [.data], laidTests := true, laidLooks := .later }
def TypesPlaysCardSaid : Prop := Claim7.holds Tryd.pinned (.plain (OpenSpec.ofChange typesPlaysSpec)) typesPlaysCard

/-- THE TIED CARD OF 'heddlelaw02.TypesReads'. -/
def typesReadsCard : Claim7 := { stood := { row := typesReadsRow, standIns := [], harness := (true, "dccc4470837eee4712a4c475a00d14631d066eb7b5e192dd9888e39c476ec522"), looks := false }, kinds := [], alts := [], laidByText := true, laidKinds := [.data], laidTests := true, laidLooks := .later }
def TypesReadsCardSaid : Prop := Claim7.holds Tryd.pinned (.plain (OpenSpec.ofChange typesReadsSpec)) typesReadsCard

/-- THE TIED CARD OF 'heddlelaw02.TypesBack'. -/
def typesBackCard : Claim7 := { stood := { row := typesBackRow, standIns := [], harness := (true, "dccc4470837eee4712a4c475a00d14631d066eb7b5e192dd9888e39c476ec522"), looks := false }, kinds := [], alts := [], laidByText := true, laidKinds := [.data], laidTests := true, laidLooks := .later }
def TypesBackCardSaid : Prop := Claim7.holds Tryd.pinned (.plain (OpenSpec.ofChange typesBackSpec)) typesBackCard

/-- THE TIED CARD OF 'heddlelaw02.TypesParts'. -/
def typesPartsCard : Claim7 := { stood := { row := typesPartsRow, standIns := [], harness := (true, "dccc4470837eee4712a4c475a00d14631d066eb7b5e192dd9888e39c476ec522"), looks := false }, kinds := [], alts := [], laidByText := true, laidKinds := [.data], laidTests := true, laidLooks := .later }
def TypesPartsCardSaid : Prop := Claim7.holds Tryd.pinned (.plain (OpenSpec.ofChange typesPartsSpec)) typesPartsCard

/-- THE TIED CARD OF 'heddlelaw02.TypesMore'. -/
def typesMoreCard : Claim7 := { stood := { row := typesMoreRow, standIns := [], harness := (true, "dccc4470837eee4712a4c475a00d14631d066eb7b5e192dd9888e39c476ec522"), looks := false }, kinds := [], alts := [], laidByText := true, laidKinds := [.data], laidTests := true, laidLooks := .later }
def TypesMoreCardSaid : Prop := Claim7.holds Tryd.pinned (.plain (OpenSpec.ofChange typesMoreSpec)) typesMoreCard

/-- THE TIED CARD OF 'heddlelaw02.TypesKeeps'. -/
def typesKeepsCard : Claim7 := { stood := { row := typesKeepsRow, standIns := [], harness := (true, "dccc4470837eee4712a4c475a00d14631d066eb7b5e192dd9888e39c476ec522"), looks := false }, kinds := [], alts := [], laidByText := true, laidKinds := [.data], laidTests := true, laidLooks := .later }
def TypesKeepsCardSaid : Prop := Claim7.holds Tryd.pinned (.plain (OpenSpec.ofChange typesKeepsSpec)) typesKeepsCard

/-- THE SECOND FORM's CARD OF 'heddlelaw02.TypesPlays'. -/
def typesPlaysUptoCard : Claim7 := { stood := { row := typesPlaysUptoRow, standIns := [], harness := (true, "dccc4470837eee4712a4c475a00d14631d066eb7b5e192dd9888e39c476ec522"), looks := false }, kinds := [], alts := [], laidByText := true, laidKinds := [.data], laidTests := true, laidLooks := .later }
def TypesPlaysUptoCardSaid : Prop := Claim7.holds Tryd.pinned (.plain (OpenSpec.upto typesPlaysSpec)) typesPlaysUptoCard

/-- THE SECOND FORM's CARD OF 'heddlelaw02.TypesReads'. -/
def typesReadsUptoCard : Claim7 := { stood := { row := typesReadsUptoRow, standIns := [], harness := (true, "dccc4470837eee4712a4c475a00d14631d066eb7b5e192dd9888e39c476ec522"), looks := false }, kinds := [], alts := [], laidByText := true, laidKinds := [.data], laidTests := true, laidLooks := .later }
def TypesReadsUptoCardSaid : Prop := Claim7.holds Tryd.pinned (.plain (OpenSpec.upto typesReadsSpec)) typesReadsUptoCard

/-- THE SECOND FORM's CARD OF 'heddlelaw02.TypesBack'. -/
def typesBackUptoCard : Claim7 := { stood := { row := typesBackUptoRow, standIns := [], harness := (true, "dccc4470837eee4712a4c475a00d14631d066eb7b5e192dd9888e39c476ec522"), looks := false }, kinds := [], alts := [], laidByText := true, laidKinds := [.data], laidTests := true, laidLooks := .later }
def TypesBackUptoCardSaid : Prop := Claim7.holds Tryd.pinned (.plain (OpenSpec.upto typesBackSpec)) typesBackUptoCard

/-- THE SECOND FORM's CARD OF 'heddlelaw02.TypesParts'. -/
def typesPartsUptoCard : Claim7 := { stood := { row := typesPartsUptoRow, standIns := [], harness := (true, "dccc4470837eee4712a4c475a00d14631d066eb7b5e192dd9888e39c476ec522"), looks := false }, kinds := [], alts := [], laidByText := true, laidKinds := [.data], laidTests := true, laidLooks := .later }
def TypesPartsUptoCardSaid : Prop := Claim7.holds Tryd.pinned (.plain (OpenSpec.upto typesPartsSpec)) typesPartsUptoCard

/-- THE SECOND FORM's CARD OF 'heddlelaw02.TypesMore'. -/
def typesMoreUptoCard : Claim7 := { stood := { row := typesMoreUptoRow, standIns := [], harness := (true, "dccc4470837eee4712a4c475a00d14631d066eb7b5e192dd9888e39c476ec522"), looks := false }, kinds := [], alts := [], laidByText := true, laidKinds := [.data], laidTests := true, laidLooks := .later }
def TypesMoreUptoCardSaid : Prop := Claim7.holds Tryd.pinned (.plain (OpenSpec.upto typesMoreSpec)) typesMoreUptoCard

/-- THE SECOND FORM's CARD OF 'heddlelaw02.TypesKeeps'. -/
def typesKeepsUptoCard : Claim7 := { stood := { row := typesKeepsUptoRow, standIns := [], harness := (true, "dccc4470837eee4712a4c475a00d14631d066eb7b5e192dd9888e39c476ec522"), looks := false }, kinds := [], alts := [], laidByText := true, laidKinds := [.data], laidTests := true, laidLooks := .later }
def TypesKeepsUptoCardSaid : Prop := Claim7.holds Tryd.pinned (.plain (OpenSpec.upto typesKeepsSpec)) typesKeepsUptoCard
end Rows
end Go.Proofs.YtfjbhpjgidgjaaaDoor
