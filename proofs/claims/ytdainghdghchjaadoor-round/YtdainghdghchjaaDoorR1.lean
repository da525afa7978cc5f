/-
  MATHEMATICS of the reader, 1: bytes that come in pieces, by a list of what must come.
-/
import Derived.Test.YtdainghdghchjaaDoorG1
import Derived.Test.YtdainghdghchjaaDoorW7
import Derived.Test.YtdainghdghchjaaDoorM8
namespace Go.Proofs.YtdainghdghchjaaDoor
open Go.RowKit

/-- What must come. -/
inductive It where
  | word (w : ByteArray)
  | bracket
  | kind
  | inFile
  | inDir
  | name
  | data
def It.most : It → Nat
  | .name => 48
  | .data => 100
  | _ => 8
/-- The tree as far as it has been read. -/
structure Gr where
  nodes : List Nd
  dirs : Ds
  path : ByteArray
def noNd : Nd := ⟨⟨#[]⟩, 0, ⟨#[]⟩⟩
def lastN (l : List Nd) : Nd := l.getD (l.length - 1) noNd
def setN (l : List Nd) (x : Nd) : List Nd := l.set (l.length - 1) x
def lastD (ds : Ds) : ByteArray × ByteArray := ds.getD (ds.length - 1) (⟨#[]⟩, ⟨#[]⟩)
def setD (ds : Ds) (x : ByteArray × ByteArray) : Ds := ds.set (ds.length - 1) x
inductive Tk where
  | more (g : Gr) (push : List It)
  | err (e : Int)
def wFile : ByteArray := ⟨#[102, 105, 108, 101]⟩
def wLink : ByteArray := ⟨#[108, 105, 110, 107]⟩
def wDir : ByteArray := ⟨#[100, 105, 114]⟩
/-- A string that came is taken. -/
def takeF (g : Gr) : It → ByteArray → Tk
  | .word w, s => if s = w then .more g [] else .err 5
  | .bracket, s => if s = wOpen then (if 5 < g.dirs.length then .err 8 else if 30 ≤ g.nodes.length then .err 9 else .more { g with nodes := g.nodes ++ [⟨g.path, 0, ⟨#[]⟩⟩] } [.word wType, .kind]) else .err 5
  | .kind, s =>
    if s = wFile then .more { g with nodes := setN g.nodes { lastN g.nodes with kind := 1 } } [.inFile]
    else if s = wLink then .more { g with nodes := setN g.nodes { lastN g.nodes with kind := 3 } } [.word wTo, .data, .word wClose]
    else if s = wDir then .more { g with nodes := setN g.nodes { lastN g.nodes with kind := 4 }, dirs := g.dirs ++ [(prefixIn (lastN g.nodes).path, ⟨#[]⟩)] } [.inDir]
    else .err 5
  | .inFile, s =>
    if s = wExec then .more { g with nodes := setN g.nodes { lastN g.nodes with kind := 2 } } [.word wNone, .word wData, .data, .word wClose]
    else if s = wData then .more g [.data, .word wClose]
    else .err 5
  | .inDir, s =>
    if s = wEntry then .more g [.word wOpen, .word wName, .name, .word wNode, .bracket, .word wClose, .inDir]
    else if s = wClose then .more { g with dirs := g.dirs.take (g.dirs.length - 1) } []
    else .err 5
  | .name, s =>
    if isNameB s.data.toList = false then .err 6
    else if notAbove s (lastD g.dirs).2 = true then .err 7
    else .more { g with dirs := setD g.dirs ((lastD g.dirs).1, s), path := (lastD g.dirs).1 ++ s } []
  | .data, s => if fits (lastN g.nodes).kind s.data.toList = true then .more { g with nodes := setN g.nodes { lastN g.nodes with data := s } } [] else .err 6

theorem take_word (g : Gr) (w s : ByteArray) : takeF g (.word w) s = if s = w then .more g [] else .err 5 := rfl
theorem take_bracket (g : Gr) (s : ByteArray) : takeF g .bracket s = if s = wOpen then (if 5 < g.dirs.length then .err 8 else if 30 ≤ g.nodes.length then .err 9 else .more ⟨g.nodes ++ [⟨g.path, 0, ⟨#[]⟩⟩], g.dirs, g.path⟩ [.word wType, .kind]) else .err 5 := rfl
theorem take_kind (g : Gr) (s : ByteArray) : takeF g .kind s =
    if s = wFile then .more ⟨setN g.nodes ⟨(lastN g.nodes).path, 1, (lastN g.nodes).data⟩, g.dirs, g.path⟩ [.inFile]
    else if s = wLink then .more ⟨setN g.nodes ⟨(lastN g.nodes).path, 3, (lastN g.nodes).data⟩, g.dirs, g.path⟩ [.word wTo, .data, .word wClose]
    else if s = wDir then .more ⟨setN g.nodes ⟨(lastN g.nodes).path, 4, (lastN g.nodes).data⟩, g.dirs ++ [(prefixIn (lastN g.nodes).path, ⟨#[]⟩)], g.path⟩ [.inDir]
    else .err 5 := rfl
theorem take_inFile (g : Gr) (s : ByteArray) : takeF g .inFile s =
    if s = wExec then .more ⟨setN g.nodes ⟨(lastN g.nodes).path, 2, (lastN g.nodes).data⟩, g.dirs, g.path⟩ [.word wNone, .word wData, .data, .word wClose]
    else if s = wData then .more g [.data, .word wClose]
    else .err 5 := rfl
theorem take_inDir (g : Gr) (s : ByteArray) : takeF g .inDir s =
    if s = wEntry then .more g [.word wOpen, .word wName, .name, .word wNode, .bracket, .word wClose, .inDir]
    else if s = wClose then .more ⟨g.nodes, g.dirs.take (g.dirs.length - 1), g.path⟩ []
    else .err 5 := rfl
theorem take_name (g : Gr) (s : ByteArray) : takeF g .name s =
    if isNameB s.data.toList = false then .err 6
    else if notAbove s (lastD g.dirs).2 = true then .err 7
    else .more ⟨g.nodes, setD g.dirs ((lastD g.dirs).1, s), (lastD g.dirs).1 ++ s⟩ [] := rfl
theorem take_data (g : Gr) (s : ByteArray) : takeF g .data s = if fits (lastN g.nodes).kind s.data.toList = true then .more ⟨setN g.nodes ⟨(lastN g.nodes).path, (lastN g.nodes).kind, s⟩, g.dirs, g.path⟩ [] else .err 6 := rfl

/-- The next string out of bytes. -/
inductive Ct where
  | wait
  | bad (e : Int)
  | ok (s : Bs) (rest : Bs) (n : Nat)
def num8 : Bs → Nat
  | [] => 0
  | b :: r => b.toNat + 256 * num8 r
def wholeOf (n : Nat) : Nat := 8 + n + padLen n
def cutF (l : Bs) (most : Nat) : Ct :=
  if l.length < 8 then .wait
  else if most < num8 (l.take 8) then .bad 3
  else if l.length < wholeOf (num8 (l.take 8)) then .wait
  else if ((l.take (wholeOf (num8 (l.take 8)))).drop (8 + num8 (l.take 8))).all (· == 0) = true then .ok ((l.drop 8).take (num8 (l.take 8))) (l.drop (wholeOf (num8 (l.take 8)))) (wholeOf (num8 (l.take 8)))
  else .bad 4

structure St where
  left : Bs
  pos : Nat
  list : List It
  gr : Gr
inductive Out where
  | go (st : St)
  | stop
  | fail (e : Int) (place : Nat)
def stepF (st : St) : Out := match st.list with
  | [] => if st.left = [] then .stop else .fail 10 st.pos
  | i :: r => match cutF st.left i.most with
    | .wait => .stop
    | .bad e => .fail e st.pos
    | .ok s rest n => match takeF st.gr i ⟨s.toArray⟩ with
      | .err e => .fail e st.pos
      | .more g push => .go ⟨rest, st.pos + n, push ++ r, g⟩
/-- A reader: it goes on, or has failed. -/
inductive Rd where
  | ok (st : St)
  | bad (e : Int) (place : Nat)
def runS : Nat → St → Rd
  | 0, st => .ok st
  | f + 1, st => match stepF st with
    | .go st' => runS f st'
    | .stop => .ok st
    | .fail e p => .bad e p
def St.add (st : St) (s : Bs) : St := { st with left := st.left ++ s }
def feedF : Rd → Bs → Rd
  | .bad e p, _ => .bad e p
  | .ok st, s => runS (st.left.length + s.length) (st.add s)
def closeF : Rd → List Nd × Int × Nat
  | .bad e p => ([], e, p)
  | .ok st => if st.list = [] then (st.gr.nodes, 0, 0) else ([], 2, st.pos + st.left.length)
def rd0 : Rd := .ok ⟨[], 0, [.word wNar, .bracket], ⟨[], [], ⟨#[]⟩⟩⟩
def readF (s : Bs) : List Nd × Int × Nat := closeF (feedF rd0 s)

theorem wholeOf_ge (n : Nat) : 8 + n ≤ wholeOf n := by unfold wholeOf; omega
theorem cutF_ok {l : Bs} {m : Nat} {s r : Bs} {n : Nat} (h : cutF l m = .ok s r n) : 8 ≤ l.length ∧ num8 (l.take 8) ≤ m ∧ n = wholeOf (num8 (l.take 8)) ∧ n ≤ l.length ∧ s = (l.drop 8).take (num8 (l.take 8)) ∧ r = l.drop n ∧ ((l.take n).drop (8 + num8 (l.take 8))).all (· == 0) = true := by
  unfold cutF at h
  split at h
  · cases h
  · split at h
    · cases h
    · split at h
      · cases h
      · split at h
        · injection h with h1 h2 h3
          subst h1; subst h2; subst h3
          exact ⟨by omega, by omega, rfl, by omega, rfl, rfl, by assumption⟩
        · cases h
theorem cutF_len {l : Bs} {m : Nat} {s r : Bs} {n : Nat} (h : cutF l m = .ok s r n) : r.length + 8 ≤ l.length ∧ r.length + n = l.length ∧ s.length + 8 ≤ n ∧ s.length ≤ m := by
  obtain ⟨h1, h2, h3, h4, rfl, rfl, _⟩ := cutF_ok h
  have := wholeOf_ge (num8 (l.take 8))
  simp only [List.length_drop, List.length_take]
  omega
theorem take_app (l b : Bs) (n : Nat) (h : n ≤ l.length) : (l ++ b).take n = l.take n := List.take_append_of_le_length h
theorem cutF_app (l b : Bs) (m : Nat) : (∀ s r n, cutF l m = .ok s r n → cutF (l ++ b) m = .ok s (r ++ b) n) ∧ (∀ e, cutF l m = .bad e → cutF (l ++ b) m = .bad e) := by
  by_cases h8 : l.length < 8
  · have : cutF l m = .wait := by unfold cutF; rw [if_pos h8]
    rw [this]; exact ⟨(fun _ _ _ h => by cases h), (fun _ h => by cases h)⟩
  · have e8 := take_app l b 8 (by omega)
    have hl : (l ++ b).length = l.length + b.length := List.length_append
    by_cases hm : m < num8 (l.take 8)
    · have h1 : cutF l m = .bad 3 := by unfold cutF; rw [if_neg h8, if_pos hm]
      have h2 : cutF (l ++ b) m = .bad 3 := by unfold cutF; rw [if_neg (by omega), e8, if_pos hm]
      rw [h1, h2]; exact ⟨(fun _ _ _ h => by cases h), fun _ h => h⟩
    · by_cases hw : l.length < wholeOf (num8 (l.take 8))
      · have : cutF l m = .wait := by unfold cutF; rw [if_neg h8, if_neg hm, if_pos hw]
        rw [this]; exact ⟨(fun _ _ _ h => by cases h), (fun _ h => by cases h)⟩
      · have ew := take_app l b (wholeOf (num8 (l.take 8))) (by omega)
        have g := wholeOf_ge (num8 (l.take 8))
        by_cases hz : ((l.take (wholeOf (num8 (l.take 8)))).drop (8 + num8 (l.take 8))).all (· == 0) = true
        · have h1 : cutF l m = .ok ((l.drop 8).take (num8 (l.take 8))) (l.drop (wholeOf (num8 (l.take 8)))) (wholeOf (num8 (l.take 8))) := by
            unfold cutF; rw [if_neg h8, if_neg hm, if_neg hw, if_pos hz]
          have h2 : cutF (l ++ b) m = .ok ((l.drop 8).take (num8 (l.take 8))) (l.drop (wholeOf (num8 (l.take 8))) ++ b) (wholeOf (num8 (l.take 8))) := by
            unfold cutF; rw [if_neg (by omega), e8, if_neg hm, if_neg (by omega), ew, if_pos hz]
            rw [List.drop_append_of_le_length (by omega), List.drop_append_of_le_length (by omega), take_app _ _ _ (by rw [List.length_drop]; omega)]
          rw [h1, h2]
          refine ⟨fun s r n h => ?_, (fun _ h => by cases h)⟩
          injection h with a1 a2 a3
          subst a1; subst a2; subst a3; rfl
        · have h1 : cutF l m = .bad 4 := by unfold cutF; rw [if_neg h8, if_neg hm, if_neg hw, if_neg hz]
          have h2 : cutF (l ++ b) m = .bad 4 := by unfold cutF; rw [if_neg (by omega), e8, if_neg hm, if_neg (by omega), ew, if_neg hz]
          rw [h1, h2]; exact ⟨(fun _ _ _ h => by cases h), fun _ h => h⟩
theorem stepF_go {st st' : St} (h : stepF st = .go st') : st'.left.length + 8 ≤ st.left.length ∧ st'.pos + st'.left.length = st.pos + st.left.length := by
  unfold stepF at h
  split at h
  · split at h <;> cases h
  · split at h
    · cases h
    · cases h
    · rename_i s rest n hc
      have hl := cutF_len hc
      split at h
      · cases h
      · injection h with h; subst h
        simp only; omega
theorem stepF_app (st : St) (b : Bs) : (∀ st', stepF st = .go st' → stepF (st.add b) = .go (st'.add b)) ∧ (∀ e p, stepF st = .fail e p → stepF (st.add b) = .fail e p) := by
  obtain ⟨left, pos, list, gr⟩ := st
  cases list with
  | nil =>
    simp only [stepF, St.add]
    by_cases h : left = []
    · rw [if_pos h]; exact ⟨(fun _ h => by cases h), (fun _ _ h => by cases h)⟩
    · have h2 : ¬ (left ++ b = []) := by simp [h]
      rw [if_neg h]
      refine ⟨(fun _ h => by cases h), fun e p hh => ?_⟩
      rw [← hh]
      exact if_neg h2
  | cons i r =>
    obtain ⟨c1, c2⟩ := cutF_app left b i.most
    simp only [stepF, St.add]
    cases hc : cutF left i.most with
    | wait => exact ⟨(fun _ h => by cases h), (fun _ _ h => by cases h)⟩
    | bad e => rw [c2 e hc]; exact ⟨(fun _ h => by cases h), fun _ _ h => h⟩
    | ok s rest n =>
      rw [c1 s rest n hc]
      simp only
      cases takeF gr i ⟨s.toArray⟩ with
      | err e => exact ⟨(fun _ h => by cases h), fun _ _ h => h⟩
      | more g push => exact ⟨fun st' h => by injection h with h; subst h; rfl, (fun _ _ h => by cases h)⟩
/-- Fuel enough is fuel enough. -/
theorem runS_fuel : ∀ (f g : Nat) (st : St), st.left.length ≤ f → st.left.length ≤ g → runS f st = runS g st
  | 0, 0, _, _, _ => rfl
  | 0, g + 1, st, h, _ => by
    simp only [runS]
    have hs : stepF st = .stop ∨ True := .inr trivial
    cases hst : stepF st with
    | stop => rfl
    | go st' => have := stepF_go hst; omega
    | fail e p =>
      exfalso
      have h0 : st.left = [] := List.eq_nil_of_length_eq_zero (by omega)
      unfold stepF at hst
      split at hst
      · rw [if_pos h0] at hst; cases hst
      · rw [h0] at hst
        simp [cutF] at hst
  | f + 1, 0, st, _, h => by
    simp only [runS]
    cases hst : stepF st with
    | stop => rfl
    | go st' => have := stepF_go hst; omega
    | fail e p =>
      exfalso
      have h0 : st.left = [] := List.eq_nil_of_length_eq_zero (by omega)
      unfold stepF at hst
      split at hst
      · rw [if_pos h0] at hst; cases hst
      · rw [h0] at hst
        simp [cutF] at hst
  | f + 1, g + 1, st, hf, hg => by
    simp only [runS]
    cases hst : stepF st with
    | stop => rfl
    | fail e p => rfl
    | go st' => have := stepF_go hst; exact runS_fuel f g st' (by omega) (by omega)
/-- A run goes on from where it stood, when more comes. -/
theorem runS_app : ∀ (f : Nat) (st : St) (b : Bs), st.left.length ≤ f → feedF (runS f st) b = runS (st.left.length + b.length) (st.add b)
  | 0, st, b, h => rfl
  | f + 1, st, b, h => by
    obtain ⟨a1, a2⟩ := stepF_app st b
    cases hst : stepF st with
    | stop =>
      have : runS (f + 1) st = .ok st := by simp only [runS, hst]
      rw [this]; rfl
    | fail e p =>
      have h1 : runS (f + 1) st = .bad e p := by simp only [runS, hst]
      rw [h1]
      have hpos : 0 < st.left.length := by
        rcases Nat.eq_zero_or_pos st.left.length with h0 | h0
        · exfalso
          have h0 : st.left = [] := List.eq_nil_of_length_eq_zero h0
          unfold stepF at hst
          split at hst
          · rw [if_pos h0] at hst; cases hst
          · rw [h0] at hst; simp [cutF] at hst
        · exact h0
      obtain ⟨k, hk⟩ : ∃ k, st.left.length + b.length = k + 1 := ⟨st.left.length + b.length - 1, by omega⟩
      rw [hk]
      simp only [runS, a2 e p hst, feedF]
    | go st' =>
      have h1 : runS (f + 1) st = runS f st' := by simp only [runS, hst]
      have hl := stepF_go hst
      rw [h1, runS_app f st' b (by omega)]
      obtain ⟨k, hk⟩ : ∃ k, st.left.length + b.length = k + 1 := ⟨st.left.length + b.length - 1, by omega⟩
      rw [hk]
      simp only [runS, a1 st' hst]
      exact runS_fuel _ _ _ (by simp [St.add]) (by simp [St.add]; omega)
theorem feedF_app (r : Rd) (a b : Bs) : feedF (feedF r a) b = feedF r (a ++ b) := by
  cases r with
  | bad e p => rfl
  | ok st =>
    show feedF (runS (st.left.length + a.length) (st.add a)) b = runS (st.left.length + (a ++ b).length) (st.add (a ++ b))
    rw [runS_app _ _ _ (by simp [St.add])]
    have : (st.add a).add b = st.add (a ++ b) := by simp [St.add, List.append_assoc]
    rw [this]
    exact runS_fuel _ _ _ (by simp [St.add]; omega) (by simp [St.add])
end Go.Proofs.YtdainghdghchjaaDoor
