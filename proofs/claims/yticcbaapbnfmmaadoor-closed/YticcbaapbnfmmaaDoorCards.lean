/-
  DERIVED. GIVEN WITH THE SEED: THE CARDS: each row of YticcbaapbnfmmaaDoorRows.lean that lists a variable, with what it lists TIED to the program's text (the seventh form; the later family's looks); each row that meets fmt, with fmt's text TOLD by the authors' own Lean function (tested against real Go, not proved from fmt's source: count such statements apart). THE CARD IS WHAT COUNTS. Prove the row's statement (the work); the ties are given (YticcbaapbnfmmaaDoorTie.lean); close each card by the builder's one call (the guide's Derived/Test/ToyasCard.lean, 'card_holds'). Laid BY PROGRAM, IN A SANDBOX (cutbox-door.mjs). By AI agents, Wed Nov 11 2026. No macro, syntax, notation, axiom, sorry.
-/
import Derived.Test.YticcbaapbnfmmaaDoorRows
import GoSem.ClaimSeven
namespace Go.Proofs.YticcbaapbnfmmaaDoor
namespace Rows

/-- THE TIED CARD OF 'narkeep.Closed'. -/
def closedCard : Claim7 := { stood := { row := closedRow, standIns := [], harness := (true, "851cb222ad2347abaa119276531285305ca5c22eb35a0443ee619b07aa0d6f5a"), looks := true }, kinds := [], alts := [], laidByText := true, laidKinds := [.data, .pinned], laidTests := true, laidLooks := .later }
def ClosedCardSaid : Prop := Claim7.holds Tryd.pinned (.plain (OpenSpec.ofChange closedSpec)) closedCard

/-- THE SECOND FORM's CARD OF 'narkeep.Closed'. -/
def closedUptoCard : Claim7 := { stood := { row := closedUptoRow, standIns := [], harness := (true, "851cb222ad2347abaa119276531285305ca5c22eb35a0443ee619b07aa0d6f5a"), looks := true }, kinds := [], alts := [], laidByText := true, laidKinds := [.data, .pinned], laidTests := true, laidLooks := .later }
def ClosedUptoCardSaid : Prop := Claim7.holds Tryd.pinned (.plain (OpenSpec.upto closedSpec)) closedUptoCard
end Rows
end Go.Proofs.YticcbaapbnfmmaaDoor
