/-
  DERIVED. GIVEN WITH THE SEED: THE CARDS: each row of YtpbjdfobbnpjfaaDoorRows.lean that lists a variable, with what it lists TIED to the program's text (the seventh form; the later family's looks); each row that meets fmt, with fmt's text TOLD by the authors' own Lean function (tested against real Go, not proved from fmt's source: count such statements apart). THE CARD IS WHAT COUNTS. Prove the row's statement (the work); the ties are given (YtpbjdfobbnpjfaaDoorTie.lean); close each card by the builder's one call (the guide's Derived/Test/ToyasCard.lean, 'card_holds'). Laid BY PROGRAM, IN A SANDBOX (cutbox-door.mjs). By AI agents, Wed Nov 11 2026. No macro, syntax, notation, axiom, sorry.
-/
import Derived.Test.YtpbjdfobbnpjfaaDoorRows
import GoSem.ClaimSeven
namespace Go.Proofs.YtpbjdfobbnpjfaaDoor
namespace Rows

/-- THE TIED CARD OF 'narkeep.One'. -/
def oneCard : Claim7 := { stood := { row := oneRow, standIns := [], harness := (true, "43c2f6dcbcbf2416a67bbf4fcee355c9a3f385cf336d85d5a731fb384c3c76de"), looks := false }, kinds := [], alts := [], laidByText := true, laidKinds := [.data, .pinned], laidTests := true, laidLooks := .later }
def OneCardSaid : Prop := Claim7.holds Tryd.pinned (.plain (OpenSpec.ofChange oneSpec)) oneCard

/-- THE SECOND FORM's CARD OF 'narkeep.One'. -/
def oneUptoCard : Claim7 := { stood := { row := oneUptoRow, standIns := [], harness := (true, "43c2f6dcbcbf2416a67bbf4fcee355c9a3f385cf336d85d5a731fb384c3c76de"), looks := false }, kinds := [], alts := [], laidByText := true, laidKinds := [.data, .pinned], laidTests := true, laidLooks := .later }
def OneUptoCardSaid : Prop := Claim7.holds Tryd.pinned (.plain (OpenSpec.upto oneSpec)) oneUptoCard
end Rows
end Go.Proofs.YtpbjdfobbnpjfaaDoor
