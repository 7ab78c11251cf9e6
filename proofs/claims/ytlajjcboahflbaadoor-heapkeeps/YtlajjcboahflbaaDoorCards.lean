/-
  DERIVED. GIVEN WITH THE SEED: THE CARDS: each row of YtlajjcboahflbaaDoorRows.lean that lists a variable, with what it lists TIED to the program's text (the seventh form; the later family's looks); each row that meets fmt, with fmt's text TOLD by the authors' own Lean function (tested against real Go, not proved from fmt's source: count such statements apart). THE CARD IS WHAT COUNTS. Prove the row's statement (the work); the ties are given (YtlajjcboahflbaaDoorTie.lean); close each card by the builder's one call (the guide's Derived/Test/ToyasCard.lean, 'card_holds'). Laid BY PROGRAM, IN A SANDBOX (cutbox-door.mjs). By AI agents, Wed Nov 11 2026. No macro, syntax, notation, axiom, sorry.
-/
import Derived.Test.YtlajjcboahflbaaDoorRows
import GoSem.ClaimSeven
namespace Go.Proofs.YtlajjcboahflbaaDoor
namespace Rows

/-- THE TIED CARD OF 'heddlelaw06.HeapApart'. -/
def heapApartCard : Claim7 := { stood := { row := heapApartRow, standIns := [], harness := (true, "ab52b1e74d5ac6b058130236dd25381131485b81060c873acd78ec1e2e32166a"), looks := false }, kinds := [], alts := [], laidByText := true, laidKinds := [.data], laidTests := true, laidLooks := .later }
def HeapApartCardSaid : Prop := Claim7.holds Tryd.pinned (.plain (OpenSpec.ofChange heapApartSpec)) heapApartCard

/-- THE TIED CARD OF 'heddlelaw06.HeapZero'. -/
def heapZeroCard : Claim7 := { stood := { row := heapZeroRow, standIns := [], harness := (true, "ab52b1e74d5ac6b058130236dd25381131485b81060c873acd78ec1e2e32166a"), looks := false }, kinds := [], alts := [], laidByText := true, laidKinds := [.data], laidTests := true, laidLooks := .later }
def HeapZeroCardSaid : Prop := Claim7.holds Tryd.pinned (.plain (OpenSpec.ofChange heapZeroSpec)) heapZeroCard

/-- THE TIED CARD OF 'heddlelaw06.HeapBack'. -/
def heapBackCard : Claim7 := { stood := { row := heapBackRow, standIns := [], harness := (true, "ab52b1e74d5ac6b058130236dd25381131485b81060c873acd78ec1e2e32166a"), looks := false }, kinds := [], alts := [], laidByText := true, laidKinds := [.data], laidTests := true, laidLooks := .later }
def HeapBackCardSaid : Prop := Claim7.holds Tryd.pinned (.plain (OpenSpec.ofChange heapBackSpec)) heapBackCard

/-- THE TIED CARD OF 'heddlelaw06.HeapNil'. -/
def heapNilCard : Claim7 := { stood := { row := heapNilRow, standIns := [], harness := (true, "ab52b1e74d5ac6b058130236dd25381131485b81060c873acd78ec1e2e32166a"), looks := false }, kinds := [], alts := [], laidByText := true, laidKinds := [.data], laidTests := true, laidLooks := .later }
def HeapNilCardSaid : Prop := Claim7.holds Tryd.pinned (.plain (OpenSpec.ofChange heapNilSpec)) heapNilCard

/-- THE TIED CARD OF 'heddlelaw06.HeapKeeps'. -/
def heapKeepsCard : Claim7 := { stood := { row := heapKeepsRow, standIns := [], harness := (true, "ab52b1e74d5ac6b058130236dd25381131485b81060c873acd78ec1e2e32166a"), looks := false }, kinds := [], alts := [], laidByText := true, laidKinds := [.data], laidTests := true, laidLooks := .later }
def HeapKeepsCardSaid : Prop := Claim7.holds Tryd.pinned (.plain (OpenSpec.ofChange heapKeepsSpec)) heapKeepsCard

/-- THE TIED CARD OF 'heddlelaw06.HeapWords'. -/
def heapWordsCard : Claim7 := { stood := { row := heapWordsRow, standIns := [], harness := (true, "ab52b1e74d5ac6b058130236dd25381131485b81060c873acd78ec1e2e32166a"), looks := false }, kinds := [], alts := [], laidByText := true, laidKinds := [.data], laidTests := true, laidLooks := .later }
def HeapWordsCardSaid : Prop := Claim7.holds Tryd.pinned (.plain (OpenSpec.ofChange heapWordsSpec)) heapWordsCard

/-- THE SECOND FORM's CARD OF 'heddlelaw06.HeapApart'. -/
def heapApartUptoCard : Claim7 := { stood := { row := heapApartUptoRow, standIns := [], harness := (true, "ab52b1e74d5ac6b058130236dd25381131485b81060c873acd78ec1e2e32166a"), looks := false }, kinds := [], alts := [], laidByText := true, laidKinds := [.data], laidTests := true, laidLooks := .later }
def HeapApartUptoCardSaid : Prop := Claim7.holds Tryd.pinned (.plain (OpenSpec.upto heapApartSpec)) heapApartUptoCard

/-- THE SECOND FORM's CARD OF 'heddlelaw06.HeapZero'. -/
def heapZeroUptoCard : Claim7 := { stood := { row := heapZeroUptoRow, standIns := [], harness := (true, "ab52b1e74d5ac6b058130236dd25381131485b81060c873acd78ec1e2e32166a"), looks := false }, kinds := [], alts := [], laidByText := true, laidKinds := [.data], laidTests := true, laidLooks := .later }
def HeapZeroUptoCardSaid : Prop := Claim7.holds Tryd.pinned (.plain (OpenSpec.upto heapZeroSpec)) heapZeroUptoCard

/-- THE SECOND FORM's CARD OF 'heddlelaw06.HeapBack'. -/
def heapBackUptoCard : Claim7 := { stood := { row := heapBackUptoRow, standIns := [], harness := (true, "ab52b1e74d5ac6b058130236dd25381131485b81060c873acd78ec1e2e32166a"), looks := false }, kinds := [], alts := [], laidByText := true, laidKinds := [.data], laidTests := true, laidLooks := .later }
def HeapBackUptoCardSaid : Prop := Claim7.holds Tryd.pinned (.plain (OpenSpec.upto heapBackSpec)) heapBackUptoCard

/-- THE SECOND FORM's CARD OF 'heddlelaw06.HeapNil'. -/
def heapNilUptoCard : Claim7 := { stood := { row := heapNilUptoRow, standIns := [], harness := (true, "ab52b1e74d5ac6b058130236dd25381131485b81060c873acd78ec1e2e32166a"), looks := false }, kinds := [], alts := [], laidByText := true, laidKinds := [.data], laidTests := true, laidLooks := .later }
def HeapNilUptoCardSaid : Prop := Claim7.holds Tryd.pinned (.plain (OpenSpec.upto heapNilSpec)) heapNilUptoCard

/-- THE SECOND FORM's CARD OF 'heddlelaw06.HeapKeeps'. -/
def heapKeepsUptoCard : Claim7 := { stood := { row := heapKeepsUptoRow, standIns := [], harness := (true, "ab52b1e74d5ac6b058130236dd25381131485b81060c873acd78ec1e2e32166a"), looks := false }, kinds := [], alts := [], laidByText := true, laidKinds := [.data], laidTests := true, laidLooks := .later }
def HeapKeepsUptoCardSaid : Prop := Claim7.holds Tryd.pinned (.plain (OpenSpec.upto heapKeepsSpec)) heapKeepsUptoCard

/-- THE SECOND FORM's CARD OF 'heddlelaw06.HeapWords'. -/
def heapWordsUptoCard : Claim7 := { stood := { row := heapWordsUptoRow, standIns := [], harness := (true, "ab52b1e74d5ac6b058130236dd25381131485b81060c873acd78ec1e2e32166a"), looks := false }, kinds := [], alts := [], laidByText := true, laidKinds := [.data], laidTests := true, laidLooks := .later }
def HeapWordsUptoCardSaid : Prop := Claim7.holds Tryd.pinned (.plain (OpenSpec.upto heapWordsSpec)) heapWordsUptoCard
end Rows
end Go.Proofs.YtlajjcboahflbaaDoor
