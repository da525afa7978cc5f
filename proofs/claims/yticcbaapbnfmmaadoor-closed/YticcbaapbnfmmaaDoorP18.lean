import Derived.Test.YticcbaapbnfmmaaDoorRows
import Derived.Test.YticcbaapbnfmmaaDoorP05
import Derived.Test.YticcbaapbnfmmaaDoorP06
import Derived.Test.YticcbaapbnfmmaaDoorP09
import Derived.Test.YticcbaapbnfmmaaDoorP14
import Derived.Test.YticcbaapbnfmmaaDoorP17
import Derived.RangeFuncNested
import Derived.RangeFuncBound
import Derived.RangeFuncCalls
import Derived.RangeFuncLeaves
import Derived.Shelf.Abstract
import Derived.WalkKit
import Derived.OwnWalkIn
import Derived.TacticsInMore
import Derived.LoopNIn
import Derived.LoopIn
import Derived.Laws.EntriesVeiled
import Derived.Laws.BitsAllLaws
import Derived.Lib.BufferOwn
import Derived.RegionTactic
import Derived.Maps.AppendAt
import Derived.Deep.RegionHeld3
import Derived.Deep.RegionLaw
import Derived.Laws.Rows
import Derived.Laws.AppendOwnNone
import Derived.WalkSpells
import Derived.WalkLawsBesides
import Derived.Laws.IdiomStrings
namespace Go.Proofs.YticcbaapbnfmmaaDoor
open Go.RowKit Go.Maps

/-- A store whose entries Insert has taken. -/
structure OkR (S : List Ent) : Prop where
  ok : OkE S
  pa : ∀ e ∈ S, isPathB e.path.data.toList = true
  ri : ∀ e ∈ S, riseL e.refs = true
theorem OkR.nil : OkR [] := ⟨OkE.nil, (fun e he => by cases he), fun e he => by cases he⟩
theorem OkR.insert {S : List Ent} (h : OkR S) (x : Ent) : OkR (insertF S x).2 := by
  refine ⟨h.ok.insert x, ?_, ?_⟩
  all_goals
    unfold insertF
    split
    · first | exact h.pa | exact h.ri
    · rename_i hp
      split
      · first | exact h.pa | exact h.ri
      · split
        · first | exact h.pa | exact h.ri
        · rename_i hr
          split
          · first | exact h.pa | exact h.ri
          · intro e he
            unfold putS at he
            cases hf : findS S x.path with
            | some y => rw [hf] at he; first | exact h.pa e he | exact h.ri e he
            | none =>
              rw [hf] at he
              simp only at he
              split at he
              · first | exact h.pa e he | exact h.ri e he
              · rcases insS_mem he with rfl | he
                · first | exact eq_true_of_ne_false hp | exact eq_true_of_ne_false hr
                · first | exact h.pa e he | exact h.ri e he
theorem findS_insS (x : Ent) (r : ByteArray) : ∀ T : List Ent, findS T x.path = none → findS (insS x T) r = if r = x.path then some x else findS T r
  | [], _ => by
    unfold findS insS
    by_cases h : r = x.path
    · subst h; simp
    · rw [if_neg h, List.find?_cons]
      have : (x.path.data.toList == r.data.toList) = false := beq_eq_false_iff_ne.2 fun e => h (WideShapes.bytes_inj e).symm
      rw [this]
  | z :: T, hf => by
    have e2 : insS x (z :: T) = if bytesBefore x.path.data.toList z.path.data.toList = true then x :: z :: T else z :: insS x T := rfl
    have hz : (z.path.data.toList == x.path.data.toList) = false := by
      cases hb : z.path.data.toList == x.path.data.toList with
      | false => rfl
      | true => unfold findS at hf; rw [List.find?_cons, hb] at hf; cases hf
    have hf' : findS T x.path = none := by unfold findS at hf ⊢; rw [List.find?_cons, hz] at hf; exact hf
    rw [e2]
    by_cases h : r = x.path
    · subst h
      rw [if_pos rfl]
      split
      · unfold findS; simp
      · have ih := findS_insS x x.path T hf'
        rw [if_pos rfl] at ih
        unfold findS at ih ⊢
        rw [List.find?_cons, hz]
        exact ih
    · have hx : (x.path.data.toList == r.data.toList) = false := beq_eq_false_iff_ne.2 fun e => h (WideShapes.bytes_inj e).symm
      rw [if_neg h]
      split
      · unfold findS; rw [List.find?_cons, hx]
      · have ih := findS_insS x r T hf'
        rw [if_neg h] at ih
        unfold findS at ih ⊢
        rw [List.find?_cons, List.find?_cons, ih]
theorem next_some {P : ByteArray → Bool} {S : List Ent} {out : List ByteArray} {e : Ent} (h : HP.nextF P S out = some e) : e ∈ S ∧ inL out e.path = false ∧ HP.readyB out e = true := by
  unfold HP.nextF at h
  have h1 := List.find?_some h
  unfold HP.condB at h1
  simp only [Bool.and_eq_true, Bool.not_eq_true'] at h1
  exact ⟨List.mem_of_find?_eq_some h, h1.1.2, h1.2⟩
end Go.Proofs.YticcbaapbnfmmaaDoor
namespace Go.Proofs.YticcbaapbnfmmaaDoor
open Go.RowKit Go.Maps

/-- No entry leads to itself by way of others. -/
def Acyc (S : List Ent) : Prop := ∃ rank : ByteArray → Nat, ∀ e ∈ S, ∀ r ∈ e.refs, r = e.path ∨ rank r < rank e.path
/-- All that is reached is told. -/
theorem final_full {S : List Ent} {roots out : List ByteArray} (hA : Acyc S) (hC : ClosedS S) (hl : lackR S roots = false) (h : HP.Final (HP.rchB S roots) S out) : ∀ p, HP.Rch S roots p → inL out p = true := by
  obtain ⟨rank, hrk⟩ := hA
  have hent : ∀ p, HP.Rch S roots p → ∃ e ∈ S, e.path = p := fun p hp => by
    cases hp with
    | root hm =>
      refine findS_not ?_
      cases hn : (findS S p).isNone with
      | false => rfl
      | true => rw [show lackR S roots = true from List.any_eq_true.2 ⟨p, hm, hn⟩] at hl; cases hl
    | ref _ he hr => exact hC.ref _ he _ hr
  have main : ∀ n p, rank p < n → HP.Rch S roots p → inL out p = true := by
    intro n
    induction n with
    | zero => exact fun p hp => absurd hp (Nat.not_lt_zero _)
    | succ n ih =>
      intro p hpn hp
      obtain ⟨e, he, rfl⟩ := hent p hp
      cases hi : inL out e.path with
      | true => rfl
      | false =>
        have hrd : HP.readyB out e = true := List.all_eq_true.2 fun r hr => by
          rw [Bool.or_eq_true, decide_eq_true_eq]
          rcases hrk e he r hr with h1 | h1
          · exact .inl h1
          · exact .inr (ih r (by omega) (.ref hp he hr))
        have hcond : HP.condB (HP.rchB S roots) out e = true := by
          unfold HP.condB
          rw [HP.rchB_iff.2 hp, hi, hrd]
          rfl
        have hnone := h.2
        unfold HP.nextF at hnone
        exact absurd hcond (List.find?_eq_none.1 hnone e he)
  exact fun p hp => main (rank p + 1) p (Nat.lt_succ_self _) hp
end Go.Proofs.YticcbaapbnfmmaaDoor
