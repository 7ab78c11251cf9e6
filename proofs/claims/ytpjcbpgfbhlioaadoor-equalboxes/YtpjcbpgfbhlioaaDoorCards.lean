/-
  DERIVED. GIVEN WITH THE SEED: THE CARDS: each row of YtpjcbpgfbhlioaaDoorRows.lean that lists a variable, with what it lists TIED to the program's text (the seventh form; the later family's looks); each row that meets fmt, with fmt's text TOLD by the authors' own Lean function (tested against real Go, not proved from fmt's source: count such statements apart). THE CARD IS WHAT COUNTS. Prove the row's statement (the work); the ties are given (YtpjcbpgfbhlioaaDoorTie.lean); close each card by the builder's one call (the guide's Derived/Test/ToyasCard.lean, 'card_holds'). Laid BY PROGRAM, IN A SANDBOX (cutbox-door.mjs). By AI agents, Wed Nov 11 2026. No macro, syntax, notation, axiom, sorry.
-/
import Derived.Test.YtpjcbpgfbhlioaaDoorRows
import GoSem.ClaimSeven
namespace Go.Proofs.YtpjcbpgfbhlioaaDoor
namespace Rows

/-- THE TIED CARD OF 'heddlelaw10.EqualPlays'. -/
def equalPlaysCard : Claim7 := { stood := { row := equalPlaysRow, standIns := [], harness := (true, "921ff949354e87e8d21cc8e799709501e7d3219a437e87edb3a7757ac26ec50d"), looks := false }, kinds := [], alts := [], laidByText := true, laidKinds := [.data], laidTests := true, laidLooks := .later }
def EqualPlaysCardSaid : Prop := Claim7.holds Tryd.pinned (.plain (OpenSpec.ofChange equalPlaysSpec)) equalPlaysCard

/-- THE TIED CARD OF 'heddlelaw10.EqualHashes'. -/
def equalHashesCard : Claim7 := { stood := { row := equalHashesRow, standIns := [], harness := (true, "921ff949354e87e8d21cc8e799709501e7d3219a437e87edb3a7757ac26ec50d"), looks := false }, kinds := [], alts := [], laidByText := true, laidKinds := [.data], laidTests := true, laidLooks := .later }
def EqualHashesCardSaid : Prop := Claim7.holds Tryd.pinned (.plain (OpenSpec.ofChange equalHashesSpec)) equalHashesCard

/-- THE TIED CARD OF 'heddlelaw10.EqualOrder'. -/
def equalOrderCard : Claim7 := { stood := { row := equalOrderRow, standIns := [], harness := (true, "921ff949354e87e8d21cc8e799709501e7d3219a437e87edb3a7757ac26ec50d"), looks := false }, kinds := [], alts := [], laidByText := true, laidKinds := [.data], laidTests := true, laidLooks := .later }
def EqualOrderCardSaid : Prop := Claim7.holds Tryd.pinned (.plain (OpenSpec.ofChange equalOrderSpec)) equalOrderCard

/-- THE TIED CARD OF 'heddlelaw10.EqualSame'. -/
def equalSameCard : Claim7 := { stood := { row := equalSameRow, standIns := [], harness := (true, "921ff949354e87e8d21cc8e799709501e7d3219a437e87edb3a7757ac26ec50d"), looks := false }, kinds := [], alts := [], laidByText := true, laidKinds := [.data], laidTests := true, laidLooks := .later }
def EqualSameCardSaid : Prop := Claim7.holds Tryd.pinned (.plain (OpenSpec.ofChange equalSameSpec)) equalSameCard

/-- THE TIED CARD OF 'heddlelaw10.EqualKeeps'. -/
def equalKeepsCard : Claim7 := { stood := { row := equalKeepsRow, standIns := [], harness := (true, "921ff949354e87e8d21cc8e799709501e7d3219a437e87edb3a7757ac26ec50d"), looks := false }, kinds := [], alts := [], laidByText := true, laidKinds := [.data], laidTests := true, laidLooks := .later }
def EqualKeepsCardSaid : Prop := Claim7.holds Tryd.pinned (.plain (OpenSpec.ofChange equalKeepsSpec)) equalKeepsCard

/-- THE TIED CARD OF 'heddlelaw10.EqualBoxes'. -/
def equalBoxesCard : Claim7 := { stood := { row := equalBoxesRow, standIns := [], harness := (true, "921ff949354e87e8d21cc8e799709501e7d3219a437e87edb3a7757ac26ec50d"), looks := false }, kinds := [], alts := [], laidByText := true, laidKinds := [.data], laidTests := true, laidLooks := .later }
def EqualBoxesCardSaid : Prop := Claim7.holds Tryd.pinned (.plain (OpenSpec.ofChange equalBoxesSpec)) equalBoxesCard

/-- THE SECOND FORM's CARD OF 'heddlelaw10.EqualPlays'. -/
def equalPlaysUptoCard : Claim7 := { stood := { row := equalPlaysUptoRow, standIns := [], harness := (true, "921ff949354e87e8d21cc8e799709501e7d3219a437e87edb3a7757ac26ec50d"), looks := false }, kinds := [], alts := [], laidByText := true, laidKinds := [.data], laidTests := true, laidLooks := .later }
def EqualPlaysUptoCardSaid : Prop := Claim7.holds Tryd.pinned (.plain (OpenSpec.upto equalPlaysSpec)) equalPlaysUptoCard

/-- THE SECOND FORM's CARD OF 'heddlelaw10.EqualHashes'. -/
def equalHashesUptoCard : Claim7 := { stood := { row := equalHashesUptoRow, standIns := [], harness := (true, "921ff949354e87e8d21cc8e799709501e7d3219a437e87edb3a7757ac26ec50d"), looks := false }, kinds := [], alts := [], laidByText := true, laidKinds := [.data], laidTests := true, laidLooks := .later }
def EqualHashesUptoCardSaid : Prop := Claim7.holds Tryd.pinned (.plain (OpenSpec.upto equalHashesSpec)) equalHashesUptoCard

/-- THE SECOND FORM's CARD OF 'heddlelaw10.EqualOrder'. -/
def equalOrderUptoCard : Claim7 := { stood := { row := equalOrderUptoRow, standIns := [], harness := (true, "921ff949354e87e8d21cc8e799709501e7d3219a437e87edb3a7757ac26ec50d"), looks := false }, kinds := [], alts := [], laidByText := true, laidKinds := [.data], laidTests := true, laidLooks := .later }
def EqualOrderUptoCardSaid : Prop := Claim7.holds Tryd.pinned (.plain (OpenSpec.upto equalOrderSpec)) equalOrderUptoCard

/-- THE SECOND FORM's CARD OF 'heddlelaw10.EqualSame'. -/
def equalSameUptoCard : Claim7 := { stood := { row := equalSameUptoRow, standIns := [], harness := (true, "921ff949354e87e8d21cc8e799709501e7d3219a437e87edb3a7757ac26ec50d"), looks := false }, kinds := [], alts := [], laidByText := true, laidKinds := [.data], laidTests := true, laidLooks := .later }
def EqualSameUptoCardSaid : Prop := Claim7.holds Tryd.pinned (.plain (OpenSpec.upto equalSameSpec)) equalSameUptoCard

/-- THE SECOND FORM's CARD OF 'heddlelaw10.EqualKeeps'. -/
def equalKeepsUptoCard : Claim7 := { stood := { row := equalKeepsUptoRow, standIns := [], harness := (true, "921ff949354e87e8d21cc8e799709501e7d3219a437e87edb3a7757ac26ec50d"), looks := false }, kinds := [], alts := [], laidByText := true, laidKinds := [.data], laidTests := true, laidLooks := .later }
def EqualKeepsUptoCardSaid : Prop := Claim7.holds Tryd.pinned (.plain (OpenSpec.upto equalKeepsSpec)) equalKeepsUptoCard

/-- THE SECOND FORM's CARD OF 'heddlelaw10.EqualBoxes'. -/
def equalBoxesUptoCard : Claim7 := { stood := { row := equalBoxesUptoRow, standIns := [], harness := (true, "921ff949354e87e8d21cc8e799709501e7d3219a437e87edb3a7757ac26ec50d"), looks := false }, kinds := [], alts := [], laidByText := true, laidKinds := [.data], laidTests := true, laidLooks := .later }
def EqualBoxesUptoCardSaid : Prop := Claim7.holds Tryd.pinned (.plain (OpenSpec.upto equalBoxesSpec)) equalBoxesUptoCard
end Rows
end Go.Proofs.YtpjcbpgfbhlioaaDoor
