import Derived.Test.YticcbaapbnfmmaaDoorP01
import Derived.Test.YticcbaapbnfmmaaDoorP03
import Derived.Test.YticcbaapbnfmmaaDoorP06
import Derived.Test.YticcbaapbnfmmaaDoorP07
import Derived.Test.YticcbaapbnfmmaaDoorP09
import Derived.Test.YticcbaapbnfmmaaDoorP13
import Derived.Test.YticcbaapbnfmmaaDoorP14
import Derived.Deep.DeepCutAuto
import Derived.Lib.MapLaws
import Derived.Laws.AppendOwnNone
import Derived.Maps.AppendAt
import Derived.Deep.RegionHeld3
namespace Go.Proofs.YticcbaapbnfmmaaDoor
open Go.RowKit

/-- A tree, of sizes that the walks bear. -/
structure IsTree (ns : List Nd) : Prop where
  right : refWrong ns = none
  small : Small ns
  bulk : bulk ns ≤ 1000000000
end Go.Proofs.YticcbaapbnfmmaaDoor
namespace Go.Proofs.YticcbaapbnfmmaaDoor
open Go.RowKit Go.Maps

/-- What a store must be good for. -/
structure OkS (S : List Ent) : Prop where
  closed : ClosedS S
  tree : ∀ e ∈ S, IsTree e.nodes ∧ (packB e.nodes).size ≤ 50000000
  rs : ∀ e ∈ S, ∀ r ∈ e.refs, r.size ≤ 1000000000
theorem insS_mem' {x y : Ent} : ∀ {S : List Ent}, y = x ∨ y ∈ S → y ∈ insS x S
  | [], h => by
    rcases h with rfl | h
    · exact List.mem_cons_self
    · cases h
  | z :: S, h => by
    have e2 : insS x (z :: S) = if bytesBefore x.path.data.toList z.path.data.toList = true then x :: z :: S else z :: insS x S := rfl
    rw [e2]
    split
    · rcases h with rfl | h
      · exact List.mem_cons_self
      · exact List.mem_cons_of_mem _ h
    · rcases h with rfl | h
      · exact List.mem_cons_of_mem _ (insS_mem' (.inl rfl))
      · rcases List.mem_cons.1 h with rfl | h
        · exact List.mem_cons_self
        · exact List.mem_cons_of_mem _ (insS_mem' (.inr h))
theorem insS_len (x : Ent) : ∀ S, (insS x S).length = S.length + 1
  | [] => rfl
  | z :: S => by
    have e2 : insS x (z :: S) = if bytesBefore x.path.data.toList z.path.data.toList = true then x :: z :: S else z :: insS x S := rfl
    rw [e2]
    split
    · rfl
    · rw [List.length_cons, insS_len x S]; rfl
end Go.Proofs.YticcbaapbnfmmaaDoor
