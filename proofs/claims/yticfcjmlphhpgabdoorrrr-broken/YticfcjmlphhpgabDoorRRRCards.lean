/-
  DERIVED. GIVEN WITH THE SEED: THE CARDS: each row of YticfcjmlphhpgabDoorRRRRows.lean that lists a variable, with what it lists TIED to the program's text (the seventh form; the later family's looks); each row that meets fmt, with fmt's text TOLD by the authors' own Lean function (tested against real Go, not proved from fmt's source: count such statements apart). THE CARD IS WHAT COUNTS. Prove the row's statement (the work); the ties are given (YticfcjmlphhpgabDoorRRRTie.lean); close each card by the builder's one call (the guide's Derived/Test/ToyasCard.lean, 'card_holds'). Laid BY PROGRAM, IN A SANDBOX (cutbox-door.mjs). By AI agents, Wed Nov 11 2026. No macro, syntax, notation, axiom, sorry.
-/
import Derived.Test.YticfcjmlphhpgabDoorRRRRows
import GoSem.ClaimSeven
namespace Go.Proofs.YticfcjmlphhpgabDoorRRR
namespace Rows

/-- THE TIED CARD OF 'narkeep.Broken'. -/
def brokenCard : Claim7 := { stood := { row := brokenRow, standIns := [], harness := (true, "f14492927cade399b697351ca9f1bcf17ac3c8ef82e9d43b061b0bdf6632bb1e"), looks := false }, kinds := [], alts := [], laidByText := true, laidKinds := [.data, .pinned], laidTests := true, laidLooks := .later }
def BrokenCardSaid : Prop := Claim7.holds Tryd.pinned (.plain (OpenSpec.ofChange brokenSpec)) brokenCard

/-- THE SECOND FORM's CARD OF 'narkeep.Broken'. -/
def brokenUptoCard : Claim7 := { stood := { row := brokenUptoRow, standIns := [], harness := (true, "f14492927cade399b697351ca9f1bcf17ac3c8ef82e9d43b061b0bdf6632bb1e"), looks := false }, kinds := [], alts := [], laidByText := true, laidKinds := [.data, .pinned], laidTests := true, laidLooks := .later }
def BrokenUptoCardSaid : Prop := Claim7.holds Tryd.pinned (.plain (OpenSpec.upto brokenSpec)) brokenUptoCard
end Rows
end Go.Proofs.YticfcjmlphhpgabDoorRRR
