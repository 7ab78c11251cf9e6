/-
  DERIVED. GIVEN WITH THE SEED: THE CARDS: each row of YtmheeibkpgfeeaaDoorRows.lean that lists a variable, with what it lists TIED to the program's text (the seventh form; the later family's looks); each row that meets fmt, with fmt's text TOLD by the authors' own Lean function (tested against real Go, not proved from fmt's source: count such statements apart). THE CARD IS WHAT COUNTS. Prove the row's statement (the work); the ties are given (YtmheeibkpgfeeaaDoorTie.lean); close each card by the builder's one call (the guide's Derived/Test/ToyasCard.lean, 'card_holds'). Laid BY PROGRAM, IN A SANDBOX (cutbox-door.mjs). By AI agents, Wed Nov 11 2026. No macro, syntax, notation, axiom, sorry.
-/
import Derived.Test.YtmheeibkpgfeeaaDoorRows
import GoSem.ClaimSeven
namespace Go.Proofs.YtmheeibkpgfeeaaDoor
namespace Rows

/-- THE TIED CARD OF 'heddlelaw05.ClassesPlays'. -/
def classesPlaysCard : Claim7 := { stood := { row := classesPlaysRow, standIns := [], harness := (true, "51bbcbb5ee79136e0bee52f96747fdab6c518be31be86edc7e1324dfa42c3b58"), looks := false }, kinds := [], alts := [], laidByText := true, laidKinds := [.data], laidTests := true, laidLooks := .later }
def ClassesPlaysCardSaid : Prop := Claim7.holds Tryd.pinned (.plain (OpenSpec.ofChange classesPlaysSpec)) classesPlaysCard

/-- THE TIED CARD OF 'heddlelaw05.ClassesLeast'. -/
def classesLeastCard : Claim7 := { stood := { row := classesLeastRow, standIns := [], harness := (true, "51bbcbb5ee79136e0bee52f96747fdab6c518be31be86edc7e1324dfa42c3b58"), looks := false }, kinds := [], alts := [], laidByText := true, laidKinds := [.data], laidTests := true, laidLooks := .later }
def ClassesLeastCardSaid : Prop := Claim7.holds Tryd.pinned (.plain (OpenSpec.ofChange classesLeastSpec)) classesLeastCard

/-- THE TIED CARD OF 'heddlelaw05.ClassesRise'. -/
def classesRiseCard : Claim7 := { stood := { row := classesRiseRow, standIns := [], harness := (true, "51bbcbb5ee79136e0bee52f96747fdab6c518be31be86edc7e1324dfa42c3b58"), looks := false }, kinds := [], alts := [], laidByText := true, laidKinds := [.data], laidTests := true, laidLooks := .later }
def ClassesRiseCardSaid : Prop := Claim7.holds Tryd.pinned (.plain (OpenSpec.ofChange classesRiseSpec)) classesRiseCard

/-- THE SECOND FORM's CARD OF 'heddlelaw05.ClassesPlays'. -/
def classesPlaysUptoCard : Claim7 := { stood := { row := classesPlaysUptoRow, standIns := [], harness := (true, "51bbcbb5ee79136e0bee52f96747fdab6c518be31be86edc7e1324dfa42c3b58"), looks := false }, kinds := [], alts := [], laidByText := true, laidKinds := [.data], laidTests := true, laidLooks := .later }
def ClassesPlaysUptoCardSaid : Prop := Claim7.holds Tryd.pinned (.plain (OpenSpec.upto classesPlaysSpec)) classesPlaysUptoCard

/-- THE SECOND FORM's CARD OF 'heddlelaw05.ClassesLeast'. -/
def classesLeastUptoCard : Claim7 := { stood := { row := classesLeastUptoRow, standIns := [], harness := (true, "51bbcbb5ee79136e0bee52f96747fdab6c518be31be86edc7e1324dfa42c3b58"), looks := false }, kinds := [], alts := [], laidByText := true, laidKinds := [.data], laidTests := true, laidLooks := .later }
def ClassesLeastUptoCardSaid : Prop := Claim7.holds Tryd.pinned (.plain (OpenSpec.upto classesLeastSpec)) classesLeastUptoCard

/-- THE SECOND FORM's CARD OF 'heddlelaw05.ClassesRise'. -/
def classesRiseUptoCard : Claim7 := { stood := { row := classesRiseUptoRow, standIns := [], harness := (true, "51bbcbb5ee79136e0bee52f96747fdab6c518be31be86edc7e1324dfa42c3b58"), looks := false }, kinds := [], alts := [], laidByText := true, laidKinds := [.data], laidTests := true, laidLooks := .later }
def ClassesRiseUptoCardSaid : Prop := Claim7.holds Tryd.pinned (.plain (OpenSpec.upto classesRiseSpec)) classesRiseUptoCard
end Rows
end Go.Proofs.YtmheeibkpgfeeaaDoor
