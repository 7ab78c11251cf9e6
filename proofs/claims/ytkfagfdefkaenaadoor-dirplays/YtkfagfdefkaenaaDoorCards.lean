/-
  DERIVED. GIVEN WITH THE SEED: THE CARDS: each row of YtkfagfdefkaenaaDoorRows.lean that lists a variable, with what it lists TIED to the program's text (the seventh form; the later family's looks); each row that meets fmt, with fmt's text TOLD by the authors' own Lean function (tested against real Go, not proved from fmt's source: count such statements apart). THE CARD IS WHAT COUNTS. Prove the row's statement (the work); the ties are given (YtkfagfdefkaenaaDoorTie.lean); close each card by the builder's one call (the guide's Derived/Test/ToyasCard.lean, 'card_holds'). Laid BY PROGRAM, IN A SANDBOX (cutbox-door.mjs). By AI agents, Wed Nov 11 2026. No macro, syntax, notation, axiom, sorry.
-/
import Derived.Test.YtkfagfdefkaenaaDoorRows
import GoSem.ClaimSeven
namespace Go.Proofs.YtkfagfdefkaenaaDoor
namespace Rows

/-- THE TIED CARD OF 'heddlelaw15.DirReads'. -/
def dirReadsCard : Claim7 := { stood := { row := dirReadsRow, standIns := [], harness := (true, "a67467d0f78a3a63d867e0fb8b7392cac4246afdfdea80ea8fbe944cd5efc7da"), looks := false }, kinds := [], alts := [], laidByText := true, laidKinds := [.data], laidTests := true, laidLooks := .later }
def DirReadsCardSaid : Prop := Claim7.holds Tryd.pinned (.plain (OpenSpec.ofChange dirReadsSpec)) dirReadsCard

/-- THE TIED CARD OF 'heddlelaw15.DirPlays'. -/
def dirPlaysCard : Claim7 := { stood := { row := dirPlaysRow, standIns := [], harness := (true, "a67467d0f78a3a63d867e0fb8b7392cac4246afdfdea80ea8fbe944cd5efc7da"), looks := false }, kinds := [], alts := [], laidByText := true, laidKinds := [.data], laidTests := true, laidLooks := .later }
def DirPlaysCardSaid : Prop := Claim7.holds Tryd.pinned (.plain (OpenSpec.ofChange dirPlaysSpec)) dirPlaysCard

/-- THE TIED CARD OF 'heddlelaw15.DirFinds'. -/
def dirFindsCard : Claim7 := { stood := { row := dirFindsRow, standIns := [], harness := (true, "a67467d0f78a3a63d867e0fb8b7392cac4246afdfdea80ea8fbe944cd5efc7da"), looks := false }, kinds := [], alts := [], laidByText := true, laidKinds := [.data], laidTests := true, laidLooks := .later }
def DirFindsCardSaid : Prop := Claim7.holds Tryd.pinned (.plain (OpenSpec.ofChange dirFindsSpec)) dirFindsCard

/-- THE TIED CARD OF 'heddlelaw15.DirBack'. -/
def dirBackCard : Claim7 := { stood := { row := dirBackRow, standIns := [], harness := (true, "a67467d0f78a3a63d867e0fb8b7392cac4246afdfdea80ea8fbe944cd5efc7da"), looks := false }, kinds := [], alts := [], laidByText := true, laidKinds := [.data], laidTests := true, laidLooks := .later }
def DirBackCardSaid : Prop := Claim7.holds Tryd.pinned (.plain (OpenSpec.ofChange dirBackSpec)) dirBackCard

/-- THE TIED CARD OF 'heddlelaw15.DirKeeps'. -/
def dirKeepsCard : Claim7 := { stood := { row := dirKeepsRow, standIns := [], harness := (true, "a67467d0f78a3a63d867e0fb8b7392cac4246afdfdea80ea8fbe944cd5efc7da"), looks := false }, kinds := [], alts := [], laidByText := true, laidKinds := [.data], laidTests := true, laidLooks := .later }
def DirKeepsCardSaid : Prop := Claim7.holds Tryd.pinned (.plain (OpenSpec.ofChange dirKeepsSpec)) dirKeepsCard

/-- THE SECOND FORM's CARD OF 'heddlelaw15.DirReads'. -/
def dirReadsUptoCard : Claim7 := { stood := { row := dirReadsUptoRow, standIns := [], harness := (true, "a67467d0f78a3a63d867e0fb8b7392cac4246afdfdea80ea8fbe944cd5efc7da"), looks := false }, kinds := [], alts := [], laidByText := true, laidKinds := [.data], laidTests := true, laidLooks := .later }
def DirReadsUptoCardSaid : Prop := Claim7.holds Tryd.pinned (.plain (OpenSpec.upto dirReadsSpec)) dirReadsUptoCard

/-- THE SECOND FORM's CARD OF 'heddlelaw15.DirPlays'. -/
def dirPlaysUptoCard : Claim7 := { stood := { row := dirPlaysUptoRow, standIns := [], harness := (true, "a67467d0f78a3a63d867e0fb8b7392cac4246afdfdea80ea8fbe944cd5efc7da"), looks := false }, kinds := [], alts := [], laidByText := true, laidKinds := [.data], laidTests := true, laidLooks := .later }
def DirPlaysUptoCardSaid : Prop := Claim7.holds Tryd.pinned (.plain (OpenSpec.upto dirPlaysSpec)) dirPlaysUptoCard

/-- THE SECOND FORM's CARD OF 'heddlelaw15.DirFinds'. -/
def dirFindsUptoCard : Claim7 := { stood := { row := dirFindsUptoRow, standIns := [], harness := (true, "a67467d0f78a3a63d867e0fb8b7392cac4246afdfdea80ea8fbe944cd5efc7da"), looks := false }, kinds := [], alts := [], laidByText := true, laidKinds := [.data], laidTests := true, laidLooks := .later }
def DirFindsUptoCardSaid : Prop := Claim7.holds Tryd.pinned (.plain (OpenSpec.upto dirFindsSpec)) dirFindsUptoCard

/-- THE SECOND FORM's CARD OF 'heddlelaw15.DirBack'. -/
def dirBackUptoCard : Claim7 := { stood := { row := dirBackUptoRow, standIns := [], harness := (true, "a67467d0f78a3a63d867e0fb8b7392cac4246afdfdea80ea8fbe944cd5efc7da"), looks := false }, kinds := [], alts := [], laidByText := true, laidKinds := [.data], laidTests := true, laidLooks := .later }
def DirBackUptoCardSaid : Prop := Claim7.holds Tryd.pinned (.plain (OpenSpec.upto dirBackSpec)) dirBackUptoCard

/-- THE SECOND FORM's CARD OF 'heddlelaw15.DirKeeps'. -/
def dirKeepsUptoCard : Claim7 := { stood := { row := dirKeepsUptoRow, standIns := [], harness := (true, "a67467d0f78a3a63d867e0fb8b7392cac4246afdfdea80ea8fbe944cd5efc7da"), looks := false }, kinds := [], alts := [], laidByText := true, laidKinds := [.data], laidTests := true, laidLooks := .later }
def DirKeepsUptoCardSaid : Prop := Claim7.holds Tryd.pinned (.plain (OpenSpec.upto dirKeepsSpec)) dirKeepsUptoCard
end Rows
end Go.Proofs.YtkfagfdefkaenaaDoor
