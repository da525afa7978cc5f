/-
  DERIVED. GIVEN WITH THE SEED: THE CARDS: each row of YticfcjmlphhpgaaGreatDoorRows.lean that lists a variable, with what it lists TIED to the program's text (the seventh form; the later family's looks); each row that meets fmt, with fmt's text TOLD by the authors' own Lean function (tested against real Go, not proved from fmt's source: count such statements apart). THE CARD IS WHAT COUNTS. Prove the row's statement (the work); the ties are given (YticfcjmlphhpgaaGreatDoorTie.lean); close each card by the builder's one call (the guide's Derived/Test/ToyasCard.lean, 'card_holds'). Laid BY PROGRAM, IN A SANDBOX (cutbox-door.mjs). By AI agents, Wed Nov 11 2026. No macro, syntax, notation, axiom, sorry.
-/
import Derived.Test.YticfcjmlphhpgaaGreatDoorRows
import GoSem.ClaimSeven
namespace Go.Proofs.YticfcjmlphhpgaaGreatDoor
namespace Rows

/-- THE TIED CARD OF 'narlaw.Inserts'. -/
def insertsCard : Claim7 := { stood := { row := insertsRow, standIns := [], harness := (true, "afd5e11d8180f7fd466981d41fc7f7a369055678ee36d3c7d837e2fcf7ca4cb2"), looks := true }, kinds := [], alts := [], laidByText := true, laidKinds := [.data, .pinned], laidTests := true, laidLooks := .later }
def InsertsCardSaid : Prop := Claim7.holds Tryz.pinned (.plain (OpenSpec.ofChange insertsSpec)) insertsCard

/-- THE TIED CARD OF 'narlaw.Gets'. -/
def getsCard : Claim7 := { stood := { row := getsRow, standIns := [], harness := (true, "afd5e11d8180f7fd466981d41fc7f7a369055678ee36d3c7d837e2fcf7ca4cb2"), looks := true }, kinds := [], alts := [], laidByText := true, laidKinds := [.data, .pinned], laidTests := true, laidLooks := .later }
def GetsCardSaid : Prop := Claim7.holds Tryz.pinned (.plain (OpenSpec.ofChange getsSpec)) getsCard

/-- THE TIED CARD OF 'narlaw.Paths'. -/
def pathsCard : Claim7 := { stood := { row := pathsRow, standIns := [], harness := (true, "afd5e11d8180f7fd466981d41fc7f7a369055678ee36d3c7d837e2fcf7ca4cb2"), looks := true }, kinds := [], alts := [], laidByText := true, laidKinds := [.data, .pinned], laidTests := true, laidLooks := .later }
def PathsCardSaid : Prop := Claim7.holds Tryz.pinned (.plain (OpenSpec.ofChange pathsSpec)) pathsCard

/-- THE TIED CARD OF 'narlaw.Closures'. -/
def closuresCard : Claim7 := { stood := { row := closuresRow, standIns := [], harness := (true, "afd5e11d8180f7fd466981d41fc7f7a369055678ee36d3c7d837e2fcf7ca4cb2"), looks := true }, kinds := [], alts := [], laidByText := true, laidKinds := [.data, .pinned], laidTests := true, laidLooks := .later }
def ClosuresCardSaid : Prop := Claim7.holds Tryz.pinned (.plain (OpenSpec.ofChange closuresSpec)) closuresCard

/-- THE TIED CARD OF 'narlaw.Exports'. -/
def exportsCard : Claim7 := { stood := { row := exportsRow, standIns := [], harness := (true, "afd5e11d8180f7fd466981d41fc7f7a369055678ee36d3c7d837e2fcf7ca4cb2"), looks := true }, kinds := [], alts := [], laidByText := true, laidKinds := [.data, .pinned], laidTests := true, laidLooks := .later }
def ExportsCardSaid : Prop := Claim7.holds Tryz.pinned (.plain (OpenSpec.ofChange exportsSpec)) exportsCard

/-- THE TIED CARD OF 'narlaw.Imports'. -/
def importsCard : Claim7 := { stood := { row := importsRow, standIns := [], harness := (true, "afd5e11d8180f7fd466981d41fc7f7a369055678ee36d3c7d837e2fcf7ca4cb2"), looks := true }, kinds := [], alts := [], laidByText := true, laidKinds := [.data, .pinned], laidTests := true, laidLooks := .later }
def ImportsCardSaid : Prop := Claim7.holds Tryz.pinned (.plain (OpenSpec.ofChange importsSpec)) importsCard

/-- THE TIED CARD OF 'narlaw.Owned'. -/
def ownedCard : Claim7 := { stood := { row := ownedRow, standIns := [], harness := (true, "afd5e11d8180f7fd466981d41fc7f7a369055678ee36d3c7d837e2fcf7ca4cb2"), looks := true }, kinds := [], alts := [], laidByText := true, laidKinds := [.data, .pinned], laidTests := true, laidLooks := .later }
def OwnedCardSaid : Prop := Claim7.holds Tryz.pinned (.plain (OpenSpec.ofChange ownedSpec)) ownedCard

/-- THE TIED CARD OF 'narlaw.All'. -/
def allCard : Claim7 := { stood := { row := allRow, standIns := [], harness := (true, "afd5e11d8180f7fd466981d41fc7f7a369055678ee36d3c7d837e2fcf7ca4cb2"), looks := true }, kinds := [], alts := [], laidByText := true, laidKinds := [.data, .pinned], laidTests := true, laidLooks := .later }
def AllCardSaid : Prop := Claim7.holds Tryz.pinned (.plain (OpenSpec.ofChange allSpec)) allCard

/-- THE SECOND FORM's CARD OF 'narlaw.Inserts'. -/
def insertsUptoCard : Claim7 := { stood := { row := insertsUptoRow, standIns := [], harness := (true, "afd5e11d8180f7fd466981d41fc7f7a369055678ee36d3c7d837e2fcf7ca4cb2"), looks := true }, kinds := [], alts := [], laidByText := true, laidKinds := [.data, .pinned], laidTests := true, laidLooks := .later }
def InsertsUptoCardSaid : Prop := Claim7.holds Tryz.pinned (.plain (OpenSpec.upto insertsSpec)) insertsUptoCard

/-- THE SECOND FORM's CARD OF 'narlaw.Gets'. -/
def getsUptoCard : Claim7 := { stood := { row := getsUptoRow, standIns := [], harness := (true, "afd5e11d8180f7fd466981d41fc7f7a369055678ee36d3c7d837e2fcf7ca4cb2"), looks := true }, kinds := [], alts := [], laidByText := true, laidKinds := [.data, .pinned], laidTests := true, laidLooks := .later }
def GetsUptoCardSaid : Prop := Claim7.holds Tryz.pinned (.plain (OpenSpec.upto getsSpec)) getsUptoCard

/-- THE SECOND FORM's CARD OF 'narlaw.Paths'. -/
def pathsUptoCard : Claim7 := { stood := { row := pathsUptoRow, standIns := [], harness := (true, "afd5e11d8180f7fd466981d41fc7f7a369055678ee36d3c7d837e2fcf7ca4cb2"), looks := true }, kinds := [], alts := [], laidByText := true, laidKinds := [.data, .pinned], laidTests := true, laidLooks := .later }
def PathsUptoCardSaid : Prop := Claim7.holds Tryz.pinned (.plain (OpenSpec.upto pathsSpec)) pathsUptoCard

/-- THE SECOND FORM's CARD OF 'narlaw.Closures'. -/
def closuresUptoCard : Claim7 := { stood := { row := closuresUptoRow, standIns := [], harness := (true, "afd5e11d8180f7fd466981d41fc7f7a369055678ee36d3c7d837e2fcf7ca4cb2"), looks := true }, kinds := [], alts := [], laidByText := true, laidKinds := [.data, .pinned], laidTests := true, laidLooks := .later }
def ClosuresUptoCardSaid : Prop := Claim7.holds Tryz.pinned (.plain (OpenSpec.upto closuresSpec)) closuresUptoCard

/-- THE SECOND FORM's CARD OF 'narlaw.Exports'. -/
def exportsUptoCard : Claim7 := { stood := { row := exportsUptoRow, standIns := [], harness := (true, "afd5e11d8180f7fd466981d41fc7f7a369055678ee36d3c7d837e2fcf7ca4cb2"), looks := true }, kinds := [], alts := [], laidByText := true, laidKinds := [.data, .pinned], laidTests := true, laidLooks := .later }
def ExportsUptoCardSaid : Prop := Claim7.holds Tryz.pinned (.plain (OpenSpec.upto exportsSpec)) exportsUptoCard

/-- THE SECOND FORM's CARD OF 'narlaw.Imports'. -/
def importsUptoCard : Claim7 := { stood := { row := importsUptoRow, standIns := [], harness := (true, "afd5e11d8180f7fd466981d41fc7f7a369055678ee36d3c7d837e2fcf7ca4cb2"), looks := true }, kinds := [], alts := [], laidByText := true, laidKinds := [.data, .pinned], laidTests := true, laidLooks := .later }
def ImportsUptoCardSaid : Prop := Claim7.holds Tryz.pinned (.plain (OpenSpec.upto importsSpec)) importsUptoCard

/-- THE SECOND FORM's CARD OF 'narlaw.Owned'. -/
def ownedUptoCard : Claim7 := { stood := { row := ownedUptoRow, standIns := [], harness := (true, "afd5e11d8180f7fd466981d41fc7f7a369055678ee36d3c7d837e2fcf7ca4cb2"), looks := true }, kinds := [], alts := [], laidByText := true, laidKinds := [.data, .pinned], laidTests := true, laidLooks := .later }
def OwnedUptoCardSaid : Prop := Claim7.holds Tryz.pinned (.plain (OpenSpec.upto ownedSpec)) ownedUptoCard

/-- THE SECOND FORM's CARD OF 'narlaw.All'. -/
def allUptoCard : Claim7 := { stood := { row := allUptoRow, standIns := [], harness := (true, "afd5e11d8180f7fd466981d41fc7f7a369055678ee36d3c7d837e2fcf7ca4cb2"), looks := true }, kinds := [], alts := [], laidByText := true, laidKinds := [.data, .pinned], laidTests := true, laidLooks := .later }
def AllUptoCardSaid : Prop := Claim7.holds Tryz.pinned (.plain (OpenSpec.upto allSpec)) allUptoCard
end Rows
end Go.Proofs.YticfcjmlphhpgaaGreatDoor
