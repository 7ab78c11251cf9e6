/-
  DERIVED. GIVEN WITH THE SEED: THE CARDS: each row of YtjbbomokgpoilaaGreatDoorRows.lean that lists a variable, with what it lists TIED to the program's text (the seventh form; the later family's looks); each row that meets fmt, with fmt's text TOLD by the authors' own Lean function (tested against real Go, not proved from fmt's source: count such statements apart). THE CARD IS WHAT COUNTS. Prove the row's statement (the work); the ties are given (YtjbbomokgpoilaaGreatDoorTie.lean); close each card by the builder's one call (the guide's Derived/Test/ToyasCard.lean, 'card_holds'). Laid BY PROGRAM, IN A SANDBOX (cutbox-door.mjs). By AI agents, Wed Nov 11 2026. No macro, syntax, notation, axiom, sorry.
-/
import Derived.Test.YtjbbomokgpoilaaGreatDoorRows
import GoSem.ClaimSeven
namespace Go.Proofs.YtjbbomokgpoilaaGreatDoor
namespace Rows

/-- THE TIED CARD OF 'heddlelaw09.MemoryNil'. -/
def memoryNilCard : Claim7 := { stood := { row := memoryNilRow, standIns := [], harness := (true, "8a1297ce5c09f08ca0307cee4e9cdba2a9392fac5c9d0d4c142f6cef68ab8c06"), looks := false }, kinds := [], alts := [], laidByText := true, laidKinds := [.data], laidTests := true, laidLooks := .later }
def MemoryNilCardSaid : Prop := Claim7.holds Tryz.pinned (.plain (OpenSpec.ofChange memoryNilSpec)) memoryNilCard

/-- THE TIED CARD OF 'heddlelaw09.MemoryWrites'. -/
def memoryWritesCard : Claim7 := { stood := { row := memoryWritesRow, standIns := [], harness := (true, "8a1297ce5c09f08ca0307cee4e9cdba2a9392fac5c9d0d4c142f6cef68ab8c06"), looks := false }, kinds := [], alts := [], laidByText := true, laidKinds := [.data], laidTests := true, laidLooks := .later }
def MemoryWritesCardSaid : Prop := Claim7.holds Tryz.pinned (.plain (OpenSpec.ofChange memoryWritesSpec)) memoryWritesCard

/-- THE TIED CARD OF 'heddlelaw09.MemoryCuts'. -/
def memoryCutsCard : Claim7 := { stood := { row := memoryCutsRow, standIns := [], harness := (true, "8a1297ce5c09f08ca0307cee4e9cdba2a9392fac5c9d0d4c142f6cef68ab8c06"), looks := false }, kinds := [], alts := [], laidByText := true, laidKinds := [.data], laidTests := true, laidLooks := .later }
def MemoryCutsCardSaid : Prop := Claim7.holds Tryz.pinned (.plain (OpenSpec.ofChange memoryCutsSpec)) memoryCutsCard

/-- THE TIED CARD OF 'heddlelaw09.MemoryView'. -/
def memoryViewCard : Claim7 := { stood := { row := memoryViewRow, standIns := [], harness := (true, "8a1297ce5c09f08ca0307cee4e9cdba2a9392fac5c9d0d4c142f6cef68ab8c06"), looks := false }, kinds := [], alts := [], laidByText := true, laidKinds := [.data], laidTests := true, laidLooks := .later }
def MemoryViewCardSaid : Prop := Claim7.holds Tryz.pinned (.plain (OpenSpec.ofChange memoryViewSpec)) memoryViewCard

/-- THE TIED CARD OF 'heddlelaw09.MemoryCollects'. -/
def memoryCollectsCard : Claim7 := { stood := { row := memoryCollectsRow, standIns := [], harness := (true, "8a1297ce5c09f08ca0307cee4e9cdba2a9392fac5c9d0d4c142f6cef68ab8c06"), looks := false }, kinds := [], alts := [], laidByText := true, laidKinds := [.data], laidTests := true, laidLooks := .later }
def MemoryCollectsCardSaid : Prop := Claim7.holds Tryz.pinned (.plain (OpenSpec.ofChange memoryCollectsSpec)) memoryCollectsCard

/-- THE TIED CARD OF 'heddlelaw09.MemoryFull'. -/
def memoryFullCard : Claim7 := { stood := { row := memoryFullRow, standIns := [], harness := (true, "8a1297ce5c09f08ca0307cee4e9cdba2a9392fac5c9d0d4c142f6cef68ab8c06"), looks := false }, kinds := [], alts := [], laidByText := true, laidKinds := [.data], laidTests := true, laidLooks := .later }
def MemoryFullCardSaid : Prop := Claim7.holds Tryz.pinned (.plain (OpenSpec.ofChange memoryFullSpec)) memoryFullCard

/-- THE SECOND FORM's CARD OF 'heddlelaw09.MemoryNil'. -/
def memoryNilUptoCard : Claim7 := { stood := { row := memoryNilUptoRow, standIns := [], harness := (true, "8a1297ce5c09f08ca0307cee4e9cdba2a9392fac5c9d0d4c142f6cef68ab8c06"), looks := false }, kinds := [], alts := [], laidByText := true, laidKinds := [.data], laidTests := true, laidLooks := .later }
def MemoryNilUptoCardSaid : Prop := Claim7.holds Tryz.pinned (.plain (OpenSpec.upto memoryNilSpec)) memoryNilUptoCard

/-- THE SECOND FORM's CARD OF 'heddlelaw09.MemoryWrites'. -/
def memoryWritesUptoCard : Claim7 := { stood := { row := memoryWritesUptoRow, standIns := [], harness := (true, "8a1297ce5c09f08ca0307cee4e9cdba2a9392fac5c9d0d4c142f6cef68ab8c06"), looks := false }, kinds := [], alts := [], laidByText := true, laidKinds := [.data], laidTests := true, laidLooks := .later }
def MemoryWritesUptoCardSaid : Prop := Claim7.holds Tryz.pinned (.plain (OpenSpec.upto memoryWritesSpec)) memoryWritesUptoCard

/-- THE SECOND FORM's CARD OF 'heddlelaw09.MemoryCuts'. -/
def memoryCutsUptoCard : Claim7 := { stood := { row := memoryCutsUptoRow, standIns := [], harness := (true, "8a1297ce5c09f08ca0307cee4e9cdba2a9392fac5c9d0d4c142f6cef68ab8c06"), looks := false }, kinds := [], alts := [], laidByText := true, laidKinds := [.data], laidTests := true, laidLooks := .later }
def MemoryCutsUptoCardSaid : Prop := Claim7.holds Tryz.pinned (.plain (OpenSpec.upto memoryCutsSpec)) memoryCutsUptoCard

/-- THE SECOND FORM's CARD OF 'heddlelaw09.MemoryView'. -/
def memoryViewUptoCard : Claim7 := { stood := { row := memoryViewUptoRow, standIns := [], harness := (true, "8a1297ce5c09f08ca0307cee4e9cdba2a9392fac5c9d0d4c142f6cef68ab8c06"), looks := false }, kinds := [], alts := [], laidByText := true, laidKinds := [.data], laidTests := true, laidLooks := .later }
def MemoryViewUptoCardSaid : Prop := Claim7.holds Tryz.pinned (.plain (OpenSpec.upto memoryViewSpec)) memoryViewUptoCard

/-- THE SECOND FORM's CARD OF 'heddlelaw09.MemoryCollects'. -/
def memoryCollectsUptoCard : Claim7 := { stood := { row := memoryCollectsUptoRow, standIns := [], harness := (true, "8a1297ce5c09f08ca0307cee4e9cdba2a9392fac5c9d0d4c142f6cef68ab8c06"), looks := false }, kinds := [], alts := [], laidByText := true, laidKinds := [.data], laidTests := true, laidLooks := .later }
def MemoryCollectsUptoCardSaid : Prop := Claim7.holds Tryz.pinned (.plain (OpenSpec.upto memoryCollectsSpec)) memoryCollectsUptoCard

/-- THE SECOND FORM's CARD OF 'heddlelaw09.MemoryFull'. -/
def memoryFullUptoCard : Claim7 := { stood := { row := memoryFullUptoRow, standIns := [], harness := (true, "8a1297ce5c09f08ca0307cee4e9cdba2a9392fac5c9d0d4c142f6cef68ab8c06"), looks := false }, kinds := [], alts := [], laidByText := true, laidKinds := [.data], laidTests := true, laidLooks := .later }
def MemoryFullUptoCardSaid : Prop := Claim7.holds Tryz.pinned (.plain (OpenSpec.upto memoryFullSpec)) memoryFullUptoCard
end Rows
end Go.Proofs.YtjbbomokgpoilaaGreatDoor
