/-
  DERIVED. GIVEN WITH THE SEED: THE CARDS: each row of YtbpjmcjjambdkaaGreatDoorRows.lean that lists a variable, with what it lists TIED to the program's text (the seventh form; the later family's looks); each row that meets fmt, with fmt's text TOLD by the authors' own Lean function (tested against real Go, not proved from fmt's source: count such statements apart). THE CARD IS WHAT COUNTS. Prove the row's statement (the work); the ties are given (YtbpjmcjjambdkaaGreatDoorTie.lean); close each card by the builder's one call (the guide's Derived/Test/ToyasCard.lean, 'card_holds'). Laid BY PROGRAM, IN A SANDBOX (cutbox-door.mjs). By AI agents, Wed Nov 11 2026. No macro, syntax, notation, axiom, sorry.
-/
import Derived.Test.YtbpjmcjjambdkaaGreatDoorRows
import GoSem.ClaimSeven
namespace Go.Proofs.YtbpjmcjjambdkaaGreatDoor
namespace Rows

/-- THE TIED CARD OF 'heddlelaw16.LayoutSaves'. -/
def layoutSavesCard : Claim7 := { stood := { row := layoutSavesRow, standIns := [], harness := (true, "837159baaabfc006616334eb680b1ed0d9aa2cad2d96cb3c8f596162b6b07a95"), looks := false }, kinds := [], alts := [], laidByText := true, laidKinds := [.data, .data], laidTests := true, laidLooks := .later }
def LayoutSavesCardSaid : Prop := Claim7.holds Tryz.pinned (.plain (OpenSpec.ofChange layoutSavesSpec)) layoutSavesCard

/-- THE TIED CARD OF 'heddlelaw16.LayoutLoads'. -/
def layoutLoadsCard : Claim7 := { stood := { row := layoutLoadsRow, standIns := [], harness := (true, "837159baaabfc006616334eb680b1ed0d9aa2cad2d96cb3c8f596162b6b07a95"), looks := false }, kinds := [], alts := [], laidByText := true, laidKinds := [.data, .data], laidTests := true, laidLooks := .later }
def LayoutLoadsCardSaid : Prop := Claim7.holds Tryz.pinned (.plain (OpenSpec.ofChange layoutLoadsSpec)) layoutLoadsCard

/-- THE TIED CARD OF 'heddlelaw16.LayoutObjects'. -/
def layoutObjectsCard : Claim7 := { stood := { row := layoutObjectsRow, standIns := [], harness := (true, "837159baaabfc006616334eb680b1ed0d9aa2cad2d96cb3c8f596162b6b07a95"), looks := false }, kinds := [], alts := [], laidByText := true, laidKinds := [.data, .data], laidTests := true, laidLooks := .later }
def LayoutObjectsCardSaid : Prop := Claim7.holds Tryz.pinned (.plain (OpenSpec.ofChange layoutObjectsSpec)) layoutObjectsCard

/-- THE TIED CARD OF 'heddlelaw16.LayoutCollects'. -/
def layoutCollectsCard : Claim7 := { stood := { row := layoutCollectsRow, standIns := [], harness := (true, "837159baaabfc006616334eb680b1ed0d9aa2cad2d96cb3c8f596162b6b07a95"), looks := false }, kinds := [], alts := [], laidByText := true, laidKinds := [.data, .data], laidTests := true, laidLooks := .later }
def LayoutCollectsCardSaid : Prop := Claim7.holds Tryz.pinned (.plain (OpenSpec.ofChange layoutCollectsSpec)) layoutCollectsCard

/-- THE TIED CARD OF 'heddlelaw16.LayoutParts'. -/
def layoutPartsCard : Claim7 := { stood := { row := layoutPartsRow, standIns := [], harness := (true, "837159baaabfc006616334eb680b1ed0d9aa2cad2d96cb3c8f596162b6b07a95"), looks := false }, kinds := [], alts := [], laidByText := true, laidKinds := [.data, .data], laidTests := true, laidLooks := .later }
def LayoutPartsCardSaid : Prop := Claim7.holds Tryz.pinned (.plain (OpenSpec.ofChange layoutPartsSpec)) layoutPartsCard

/-- THE TIED CARD OF 'heddlelaw16.LayoutNil'. -/
def layoutNilCard : Claim7 := { stood := { row := layoutNilRow, standIns := [], harness := (true, "837159baaabfc006616334eb680b1ed0d9aa2cad2d96cb3c8f596162b6b07a95"), looks := false }, kinds := [], alts := [], laidByText := true, laidKinds := [.data, .data], laidTests := true, laidLooks := .later }
def LayoutNilCardSaid : Prop := Claim7.holds Tryz.pinned (.plain (OpenSpec.ofChange layoutNilSpec)) layoutNilCard

/-- THE SECOND FORM's CARD OF 'heddlelaw16.LayoutSaves'. -/
def layoutSavesUptoCard : Claim7 := { stood := { row := layoutSavesUptoRow, standIns := [], harness := (true, "837159baaabfc006616334eb680b1ed0d9aa2cad2d96cb3c8f596162b6b07a95"), looks := false }, kinds := [], alts := [], laidByText := true, laidKinds := [.data, .data], laidTests := true, laidLooks := .later }
def LayoutSavesUptoCardSaid : Prop := Claim7.holds Tryz.pinned (.plain (OpenSpec.upto layoutSavesSpec)) layoutSavesUptoCard

/-- THE SECOND FORM's CARD OF 'heddlelaw16.LayoutLoads'. -/
def layoutLoadsUptoCard : Claim7 := { stood := { row := layoutLoadsUptoRow, standIns := [], harness := (true, "837159baaabfc006616334eb680b1ed0d9aa2cad2d96cb3c8f596162b6b07a95"), looks := false }, kinds := [], alts := [], laidByText := true, laidKinds := [.data, .data], laidTests := true, laidLooks := .later }
def LayoutLoadsUptoCardSaid : Prop := Claim7.holds Tryz.pinned (.plain (OpenSpec.upto layoutLoadsSpec)) layoutLoadsUptoCard

/-- THE SECOND FORM's CARD OF 'heddlelaw16.LayoutObjects'. -/
def layoutObjectsUptoCard : Claim7 := { stood := { row := layoutObjectsUptoRow, standIns := [], harness := (true, "837159baaabfc006616334eb680b1ed0d9aa2cad2d96cb3c8f596162b6b07a95"), looks := false }, kinds := [], alts := [], laidByText := true, laidKinds := [.data, .data], laidTests := true, laidLooks := .later }
def LayoutObjectsUptoCardSaid : Prop := Claim7.holds Tryz.pinned (.plain (OpenSpec.upto layoutObjectsSpec)) layoutObjectsUptoCard

/-- THE SECOND FORM's CARD OF 'heddlelaw16.LayoutCollects'. -/
def layoutCollectsUptoCard : Claim7 := { stood := { row := layoutCollectsUptoRow, standIns := [], harness := (true, "837159baaabfc006616334eb680b1ed0d9aa2cad2d96cb3c8f596162b6b07a95"), looks := false }, kinds := [], alts := [], laidByText := true, laidKinds := [.data, .data], laidTests := true, laidLooks := .later }
def LayoutCollectsUptoCardSaid : Prop := Claim7.holds Tryz.pinned (.plain (OpenSpec.upto layoutCollectsSpec)) layoutCollectsUptoCard

/-- THE SECOND FORM's CARD OF 'heddlelaw16.LayoutParts'. -/
def layoutPartsUptoCard : Claim7 := { stood := { row := layoutPartsUptoRow, standIns := [], harness := (true, "837159baaabfc006616334eb680b1ed0d9aa2cad2d96cb3c8f596162b6b07a95"), looks := false }, kinds := [], alts := [], laidByText := true, laidKinds := [.data, .data], laidTests := true, laidLooks := .later }
def LayoutPartsUptoCardSaid : Prop := Claim7.holds Tryz.pinned (.plain (OpenSpec.upto layoutPartsSpec)) layoutPartsUptoCard

/-- THE SECOND FORM's CARD OF 'heddlelaw16.LayoutNil'. -/
def layoutNilUptoCard : Claim7 := { stood := { row := layoutNilUptoRow, standIns := [], harness := (true, "837159baaabfc006616334eb680b1ed0d9aa2cad2d96cb3c8f596162b6b07a95"), looks := false }, kinds := [], alts := [], laidByText := true, laidKinds := [.data, .data], laidTests := true, laidLooks := .later }
def LayoutNilUptoCardSaid : Prop := Claim7.holds Tryz.pinned (.plain (OpenSpec.upto layoutNilSpec)) layoutNilUptoCard
end Rows
end Go.Proofs.YtbpjmcjjambdkaaGreatDoor
