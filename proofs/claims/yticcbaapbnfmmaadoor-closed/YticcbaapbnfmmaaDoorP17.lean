import Derived.Test.YticcbaapbnfmmaaDoorRows
import Derived.Test.YticcbaapbnfmmaaDoorP05
import Derived.Test.YticcbaapbnfmmaaDoorP06
import Derived.Test.YticcbaapbnfmmaaDoorP09
import Derived.Test.YticcbaapbnfmmaaDoorP13
import Derived.Test.YticcbaapbnfmmaaDoorP14
import Derived.Test.YticcbaapbnfmmaaDoorP16
import Derived.WalkKit
import Derived.WalkSpells
import Derived.WalkLawsBesides
import Derived.Laws.IdiomStrings
import Derived.RangeFuncNested
import Derived.RangeFuncBound
import Derived.RangeFuncCalls
import Derived.RangeFuncLeaves
import Derived.Shelf.Abstract
import Derived.OwnWalkIn
import Derived.TacticsInMore
import Derived.LoopNIn
import Derived.LoopIn
import Derived.Laws.EntriesVeiled
import Derived.Laws.BitsAllLaws
import Derived.Lib.BufferOwn
import Derived.RegionTactic
import Derived.Maps.AppendAt
import Derived.Deep.RegionHeld3
import Derived.Deep.RegionLaw
import Derived.Laws.Rows
import Derived.Laws.AppendOwnNone
import Derived.Shelf.SlMaps.Clone
import Derived.Lib.SlMapMerge
namespace Go.Proofs.YticcbaapbnfmmaaDoor
open Go.RowKit

theorem bulk_tree : ∀ (l : List Nd), (∀ n ∈ l, n.path.size ≤ 244 ∧ n.data.size ≤ 100) → bulk l ≤ l.length * 1344
  | [], _ => Nat.le_refl _
  | n :: r, h => by
    have h1 := h n (by simp)
    have h2 := bulk_tree r fun m hm => h m (List.mem_cons_of_mem _ hm)
    simp only [bulk, List.length_cons]
    omega
theorem packB_bulk (ns : List Nd) : (packB ns).size ≤ 100 + bulk ns := by
  have e : (packB ns).size = (packBytes ns).length := by unfold packB; simp [ByteArray.size]
  rw [e]
  cases ns with
  | nil => simp [packBytes]
  | cons n r =>
    have h1 := nodeF_bulk (entsF r.length) (entsF_bulk r.length) n r
    have h2 := bytesOf_cons wNar []
    rw [bytesOf_nil] at h2
    have h3 : wNar.size = 5 := rfl
    simp only [packBytes, List.length_append]
    omega
end Go.Proofs.YticcbaapbnfmmaaDoor
namespace Go.Proofs.YticcbaapbnfmmaaDoor
open Go.RowKit

theorem tree_of {ns : List Nd} (h : firstW ns = none) : IsTree ns ∧ (packB ns).size ≤ 50000 := by
  obtain ⟨h1, h2⟩ := tree_small h
  have h3 := bulk_tree ns h2
  have h4 := packB_bulk ns
  exact ⟨IsTree.mk (by rw [← firstW_eq]; exact h) ⟨by omega, fun n hn => by have := h2 n hn; omega⟩ (by omega), by omega⟩
theorem sub_len {α : Type} [DecidableEq α] : ∀ (l L : List α), l.Nodup → (∀ x ∈ l, x ∈ L) → l.length ≤ L.length
  | [], _, _, _ => Nat.zero_le _
  | x :: r, L, hn, hm => by
    have hn := List.nodup_cons.1 hn
    have hx := hm x List.mem_cons_self
    have h1 := sub_len r (L.erase x) hn.2 (fun y hy => (List.mem_erase_of_ne (fun e => by subst e; exact hn.1 hy)).2 (hm y (List.mem_cons_of_mem _ hy)))
    have h2 := List.length_erase_of_mem hx
    have h3 := List.length_pos_of_mem hx
    rw [List.length_cons]
    omega
theorem riseL_lt {l : List ByteArray} (h : riseL l = true) (j : Nat) (hj : j + 1 < l.length) : bl l[j].data.toList l[j + 1].data.toList = true := by
  cases hn : notAbove l[j + 1] l[j] with
  | true => rw [riseL_no j hj hn] at h; cases h
  | false =>
    rw [notAbove_eq] at hn
    simpa using hn
theorem riseL_all {l : List ByteArray} (h : riseL l = true) (i : Nat) : ∀ (n : Nat) (hj : i + n + 1 < l.length), bl l[i].data.toList l[i + n + 1].data.toList = true
  | 0, hj => riseL_lt h i hj
  | n + 1, hj => bl_trans _ _ _ (riseL_all h i n (by omega)) (riseL_lt h (i + n + 1) (by omega))
theorem riseL_nodup {l : List ByteArray} (h : riseL l = true) : l.Nodup := by
  unfold List.Nodup
  rw [List.pairwise_iff_getElem]
  intro i j hi hj hij e
  obtain ⟨n, rfl⟩ : ∃ n, j = i + n + 1 := ⟨j - i - 1, by omega⟩
  have := riseL_all h i n hj
  rw [e, bl_irr] at this
  cases this
/-- A store whose paths are short, and references few. -/
structure OkE (S : List Ent) : Prop where
  ok : OkS S
  path : ∀ e ∈ S, e.path.size ≤ 12
  few : ∀ e ∈ S, e.refs.length ≤ 10
theorem OkE.put {S : List Ent} (h : OkE S) {x : Ent} (hp : x.path.size ≤ 12) (hw : firstW x.nodes = none) (hr : riseL x.refs = true) (hl : ∀ r ∈ x.refs, lackS S x.path r = false) : OkE (putS S x).2 := by
  unfold putS
  cases hf : findS S x.path with
  | some e => exact h
  | none =>
    simp only
    by_cases hfull : 10 ≤ S.length
    · rw [if_pos hfull]; exact h
    · rw [if_neg hfull]
      have hin : ∀ r ∈ x.refs, r = x.path ∨ ∃ f ∈ S, f.path = r := fun r hm => by
        by_cases e1 : r = x.path
        · exact .inl e1
        · have := hl r hm
          unfold lackS at this
          rw [decide_eq_false e1] at this
          exact .inr (findS_not (by simpa using this))
      have hlen : x.refs.length ≤ 10 := by
        have := sub_len x.refs (x.path :: S.map (·.path)) (riseL_nodup hr) (fun r hm => by
          rcases hin r hm with rfl | ⟨f, hf, rfl⟩
          · exact List.mem_cons_self
          · exact List.mem_cons_of_mem _ (List.mem_map_of_mem hf))
        rw [List.length_cons, List.length_map] at this
        omega
      have hsz : ∀ r ∈ x.refs, r.size ≤ 12 := fun r hm => by
        rcases hin r hm with rfl | ⟨f, hf, rfl⟩
        · exact hp
        · exact h.path f hf
      have ht := tree_of hw
      refine ⟨⟨⟨fun e he r hm => ?_, by rw [insS_len]; omega, fun e he => ?_, fun e he => ?_, Rising.ins h.ok.closed.rise hf⟩, fun e he => ?_, fun e he => ?_⟩, fun e he => ?_, fun e he => ?_⟩
      · rcases insS_mem he with rfl | he
        · rcases hin r hm with rfl | ⟨f, hf1, hf2⟩
          · exact ⟨e, insS_mem' (.inl rfl), rfl⟩
          · exact ⟨f, insS_mem' (.inr hf1), hf2⟩
        · obtain ⟨f, hf1, hf2⟩ := h.ok.closed.ref e he r hm
          exact ⟨f, insS_mem' (.inr hf1), hf2⟩
      · rcases insS_mem he with rfl | he
        · omega
        · exact h.ok.closed.refs e he
      · rcases insS_mem he with rfl | he
        · omega
        · exact h.ok.closed.path e he
      · rcases insS_mem he with rfl | he
        · exact ⟨ht.1, by have := ht.2; omega⟩
        · exact h.ok.tree e he
      · rcases insS_mem he with rfl | he
        · intro r hm
          have := hsz r hm
          omega
        · exact h.ok.rs e he
      · rcases insS_mem he with rfl | he
        · exact hp
        · exact h.path e he
      · rcases insS_mem he with rfl | he
        · exact hlen
        · exact h.few e he
theorem OkE.insert {S : List Ent} (h : OkE S) (x : Ent) : OkE (insertF S x).2 := by
  unfold insertF
  split
  · exact h
  · rename_i hp
    split
    · exact h
    · rename_i hw
      split
      · exact h
      · rename_i hr
        split
        · exact h
        · rename_i hany
          refine h.put ?_ ?_ ?_ fun r hm => ?_
          · have hp' : isPathB x.path.data.toList = true := by
              cases hb : isPathB x.path.data.toList with
              | true => rfl
              | false => exact absurd hb hp
            unfold isPathB at hp'
            simp only [Bool.and_eq_true, decide_eq_true_eq] at hp'
            have : x.path.data.toList.length = x.path.size := by simp
            omega
          · cases hfw : firstW x.nodes with
            | none => rfl
            | some k => rw [hfw] at hw; simp at hw
          · cases hb : riseL x.refs with
            | true => rfl
            | false => exact absurd hb hr
          · cases hb : lackS S x.path r with
            | false => rfl
            | true => exact absurd (List.any_eq_true.2 ⟨r, hm, hb⟩) hany
end Go.Proofs.YticcbaapbnfmmaaDoor
namespace Go.Proofs.YticcbaapbnfmmaaDoor
open Go.RowKit Go.Maps

theorem findS_mem {S : List Ent} {p : ByteArray} (h : ∃ e ∈ S, e.path = p) : (findS S p).isNone = false := by
  obtain ⟨e, he, rfl⟩ := h
  unfold findS
  cases hf : S.find? fun x => x.path.data.toList == e.path.data.toList with
  | none => exact absurd (List.find?_eq_none.1 hf e he) (by simp)
  | some x => rfl
theorem findS_eq {S : List Ent} (hR : Rising S) {e : Ent} (he : e ∈ S) : findS S e.path = some e := by
  cases hf : findS S e.path with
  | none =>
    have := findS_mem ⟨e, he, rfl⟩
    rw [hf] at this; cases this
  | some e' =>
    obtain ⟨h1, h2⟩ := findS_some hf
    rw [HP.rise_uniq hR h1 he h2]
theorem OkS.nil : OkS [] := ⟨⟨fun e he => (by cases he), by simp, fun e he => (by cases he), fun e he => (by cases he), List.Pairwise.nil⟩, fun e he => (by cases he), fun e he => (by cases he)⟩
theorem OkE.nil : OkE [] := ⟨OkS.nil, (fun e he => by cases he), fun e he => by cases he⟩
namespace HP
theorem OrdSt.mem {P : ByteArray → Bool} {S : List Ent} {out : List ByteArray} (h : OrdSt P S out) : ∀ p ∈ out, P p = true ∧ ∃ e ∈ S, e.path = p := by
  induction h with
  | nil => intro p hp; cases hp
  | snoc _ hn ih =>
    intro p hp
    rcases List.mem_append.1 hp with hp | hp
    · exact ih p hp
    · obtain ⟨h1, h2⟩ := next_mem hn
      rw [List.mem_singleton] at hp
      subst hp
      unfold condB at h2
      simp only [Bool.and_eq_true] at h2
      exact ⟨h2.1.1, _, h1, rfl⟩
end HP
end Go.Proofs.YticcbaapbnfmmaaDoor
