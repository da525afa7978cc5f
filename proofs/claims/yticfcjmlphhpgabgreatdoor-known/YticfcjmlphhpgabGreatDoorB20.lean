import Derived.Test.YticfcjmlphhpgabGreatDoorB01
import Derived.Test.YticfcjmlphhpgabGreatDoorB02
import Derived.Test.YticfcjmlphhpgabGreatDoorB06
import Derived.Test.YticfcjmlphhpgabGreatDoorB14
import Derived.Test.YticfcjmlphhpgabGreatDoorB15
import Derived.Deep.DeepCutAuto
import Derived.Lib.MapLaws
import Derived.Laws.AppendOwnNone
namespace Go.Proofs.YticfcjmlphhpgabGreatDoor
open Go.RowKit

/-- A tree, of sizes that the walks bear. -/
structure IsTree (ns : List Nd) : Prop where
  right : refWrong ns = none
  small : Small ns
  bulk : bulk ns ≤ 1000000000
end Go.Proofs.YticfcjmlphhpgabGreatDoor
