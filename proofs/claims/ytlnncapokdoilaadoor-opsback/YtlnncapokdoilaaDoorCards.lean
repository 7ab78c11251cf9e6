/-
  DERIVED. GIVEN WITH THE SEED: THE CARDS: each row of YtlnncapokdoilaaDoorRows.lean that lists a variable, with what it lists TIED to the program's text (the seventh form; the later family's looks); each row that meets fmt, with fmt's text TOLD by the authors' own Lean function (tested against real Go, not proved from fmt's source: count such statements apart). THE CARD IS WHAT COUNTS. Prove the row's statement (the work); the ties are given (YtlnncapokdoilaaDoorTie.lean); close each card by the builder's one call (the guide's Derived/Test/ToyasCard.lean, 'card_holds'). Laid BY PROGRAM, IN A SANDBOX (cutbox-door.mjs). By AI agents, Wed Nov 11 2026. No macro, syntax, notation, axiom, sorry.
-/
import Derived.Test.YtlnncapokdoilaaDoorRows
import GoSem.ClaimSeven
namespace Go.Proofs.YtlnncapokdoilaaDoor
namespace Rows

/-- THE TIED CARD OF 'heddlelaw11.OpsBoxes'. -/
def opsBoxesCard : Claim7 := { stood := { row := opsBoxesRow, standIns := [], harness := (true, "7c76734349dd9026730d9debf755d096bcb0934d87efbfa20af2d7bd77326583"), looks := false }, kinds := [], alts := [], laidByText := true, laidKinds := [.data], laidTests := true, laidLooks := .later }
def OpsBoxesCardSaid : Prop := Claim7.holds Tryd.pinned (.plain (OpenSpec.ofChange opsBoxesSpec)) opsBoxesCard

/-- THE TIED CARD OF 'heddlelaw11.OpsBack'. -/
def opsBackCard : Claim7 := { stood := { row := opsBackRow, standIns := [], harness := (true, "7c76734349dd9026730d9debf755d096bcb0934d87efbfa20af2d7bd77326583"), looks := false }, kinds := [], alts := [], laidByText := true, laidKinds := [.data], laidTests := true, laidLooks := .later }
def OpsBackCardSaid : Prop := Claim7.holds Tryd.pinned (.plain (OpenSpec.ofChange opsBackSpec)) opsBackCard

/-- THE TIED CARD OF 'heddlelaw11.OpsKeeps'. -/
def opsKeepsCard : Claim7 := { stood := { row := opsKeepsRow, standIns := [], harness := (true, "7c76734349dd9026730d9debf755d096bcb0934d87efbfa20af2d7bd77326583"), looks := false }, kinds := [], alts := [], laidByText := true, laidKinds := [.data], laidTests := true, laidLooks := .later }
def OpsKeepsCardSaid : Prop := Claim7.holds Tryd.pinned (.plain (OpenSpec.ofChange opsKeepsSpec)) opsKeepsCard

/-- THE SECOND FORM's CARD OF 'heddlelaw11.OpsBoxes'. -/
def opsBoxesUptoCard : Claim7 := { stood := { row := opsBoxesUptoRow, standIns := [], harness := (true, "7c76734349dd9026730d9debf755d096bcb0934d87efbfa20af2d7bd77326583"), looks := false }, kinds := [], alts := [], laidByText := true, laidKinds := [.data], laidTests := true, laidLooks := .later }
def OpsBoxesUptoCardSaid : Prop := Claim7.holds Tryd.pinned (.plain (OpenSpec.upto opsBoxesSpec)) opsBoxesUptoCard

/-- THE SECOND FORM's CARD OF 'heddlelaw11.OpsBack'. -/
def opsBackUptoCard : Claim7 := { stood := { row := opsBackUptoRow, standIns := [], harness := (true, "7c76734349dd9026730d9debf755d096bcb0934d87efbfa20af2d7bd77326583"), looks := false }, kinds := [], alts := [], laidByText := true, laidKinds := [.data], laidTests := true, laidLooks := .later }
def OpsBackUptoCardSaid : Prop := Claim7.holds Tryd.pinned (.plain (OpenSpec.upto opsBackSpec)) opsBackUptoCard

/-- THE SECOND FORM's CARD OF 'heddlelaw11.OpsKeeps'. -/
def opsKeepsUptoCard : Claim7 := { stood := { row := opsKeepsUptoRow, standIns := [], harness := (true, "7c76734349dd9026730d9debf755d096bcb0934d87efbfa20af2d7bd77326583"), looks := false }, kinds := [], alts := [], laidByText := true, laidKinds := [.data], laidTests := true, laidLooks := .later }
def OpsKeepsUptoCardSaid : Prop := Claim7.holds Tryd.pinned (.plain (OpenSpec.upto opsKeepsSpec)) opsKeepsUptoCard
end Rows
end Go.Proofs.YtlnncapokdoilaaDoor
