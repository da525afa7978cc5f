import Derived.Test.YticcbaapbnfmmaaDoorP03
import Derived.Test.YticcbaapbnfmmaaDoorP04
namespace Go.Proofs.YticcbaapbnfmmaaDoor
open Go.RowKit

abbrev Ds := List (ByteArray × ByteArray)
theorem pre_data (s : ByteArray) : (pre s).data.toList = preL s.data.toList := by
  unfold pre preL; rw [Lib.extract_data]; simp [cut]
theorem nam_data (s : ByteArray) : (nam s).data.toList = namL s.data.toList := by
  unfold nam namL; rw [Lib.extract_data]
  unfold cut
  rw [List.take_of_length_le (by simp)]
theorem data_append (a b : ByteArray) : (a ++ b).data.toList = a.data.toList ++ b.data.toList := by simp
theorem size_of_data {s : ByteArray} {l : List UInt8} (h : s.data.toList = l) : s.size = l.length := by rw [← h]; simp
theorem prefixIn_data (s : ByteArray) : (prefixIn s).data.toList = pin s.data.toList := by
  unfold prefixIn pin
  split
  · rfl
  · rw [data_append]

/-- One node more: the directories that are open behind it; none: it is wrong. -/
def stepW (i : Nat) (ds : Ds) (n : Nd) : Option Ds :=
  if i < 30 ∧ fits n.kind n.data.data.toList = true then
    (if i = 0 then (if n.path.toList.isEmpty = true then some (enterL ds n.path n.kind) else none) else placeRest ds n.path n.kind)
  else none
def runF : Nat → Ds → List Nd → Option Ds
  | _, ds, [] => some ds
  | i, ds, n :: r => match stepW i ds n with
    | some ds' => runF (i + 1) ds' r
    | none => none
theorem fwGo_step' (i : Nat) (ds : Ds) (n : Nd) (r : List Nd) : fwGo i ds (n :: r) = match stepW i ds n with | some ds' => fwGo (i + 1) ds' r | none => some i := by
  simp only [fwGo, stepW]
  by_cases h : i < 30 ∧ fits n.kind n.data.data.toList = true
  · rw [if_pos h, if_pos h]
    by_cases h0 : i = 0
    · rw [if_pos h0, if_pos h0]
      by_cases hp : n.path.toList.isEmpty = true
      · rw [if_pos hp, if_pos hp, h0]
      · rw [if_neg hp, if_neg hp, h0]
    · rw [if_neg h0, if_neg h0]
      cases placeRest ds n.path n.kind <;> rfl
  · rw [if_neg h, if_neg h]
theorem fwGo_run : ∀ (A : List Nd) (i : Nat) (ds ds' : Ds) (r : List Nd), runF i ds A = some ds' → fwGo i ds (A ++ r) = fwGo (i + A.length) ds' r
  | [], i, ds, ds', r, h => by simp only [runF, Option.some.injEq] at h; subst h; simp
  | n :: A, i, ds, ds', r, h => by
    simp only [runF] at h
    rw [List.cons_append, fwGo_step']
    cases hs : stepW i ds n with
    | none => rw [hs] at h; cases h
    | some d =>
      rw [hs] at h
      simp only at h ⊢
      rw [fwGo_run A (i + 1) d ds' r h, List.length_cons]
      congr 1; omega
theorem run_snoc : ∀ (A : List Nd) (i : Nat) (ds : Ds) (x : Nd), runF i ds (A ++ [x]) = (runF i ds A).bind fun d => stepW (i + A.length) d x
  | [], i, ds, x => by simp only [List.nil_append, runF, List.length_nil, Nat.add_zero, Option.bind_some]; cases stepW i ds x <;> rfl
  | n :: A, i, ds, x => by
    simp only [List.cons_append, runF]
    cases hs : stepW i ds n with
    | none => rfl
    | some d => simp only; rw [run_snoc A (i + 1) d x, List.length_cons]; congr 1; funext d'; congr 1; omega
theorem firstW_run (l : List Nd) (ds : Ds) (hl : l ≠ []) (h : runF 0 [] l = some ds) : firstW l = none := by
  unfold firstW
  rw [if_neg hl]
  have := fwGo_run l 0 [] ds [] h
  rw [List.append_nil] at this
  rw [this]; rfl
end Go.Proofs.YticcbaapbnfmmaaDoor
namespace Go.Proofs.YticcbaapbnfmmaaDoor
open Go.RowKit

/-- What must come. -/
inductive It where
  | word (w : ByteArray)
  | bracket
  | kind
  | inFile
  | inDir
  | name
  | data
def It.most : It → Nat
  | .name => 48
  | .data => 100
  | _ => 8
/-- The tree as far as it has been read. -/
structure Gr where
  nodes : List Nd
  dirs : Ds
  path : ByteArray
def noNd : Nd := ⟨⟨#[]⟩, 0, ⟨#[]⟩⟩
def lastN (l : List Nd) : Nd := l.getD (l.length - 1) noNd
def setN (l : List Nd) (x : Nd) : List Nd := l.set (l.length - 1) x
def lastD (ds : Ds) : ByteArray × ByteArray := ds.getD (ds.length - 1) (⟨#[]⟩, ⟨#[]⟩)
def setD (ds : Ds) (x : ByteArray × ByteArray) : Ds := ds.set (ds.length - 1) x
inductive Tk where
  | more (g : Gr) (push : List It)
  | err (e : Int)
def wFile : ByteArray := ⟨#[102, 105, 108, 101]⟩
def wLink : ByteArray := ⟨#[108, 105, 110, 107]⟩
def wDir : ByteArray := ⟨#[100, 105, 114]⟩
/-- A string that came is taken. -/
def takeF (g : Gr) : It → ByteArray → Tk
  | .word w, s => if s = w then .more g [] else .err 5
  | .bracket, s => if s = wOpen then (if 5 < g.dirs.length then .err 8 else if 30 ≤ g.nodes.length then .err 9 else .more { g with nodes := g.nodes ++ [⟨g.path, 0, ⟨#[]⟩⟩] } [.word wType, .kind]) else .err 5
  | .kind, s =>
    if s = wFile then .more { g with nodes := setN g.nodes { lastN g.nodes with kind := 1 } } [.inFile]
    else if s = wLink then .more { g with nodes := setN g.nodes { lastN g.nodes with kind := 3 } } [.word wTo, .data, .word wClose]
    else if s = wDir then .more { g with nodes := setN g.nodes { lastN g.nodes with kind := 4 }, dirs := g.dirs ++ [(prefixIn (lastN g.nodes).path, ⟨#[]⟩)] } [.inDir]
    else .err 5
  | .inFile, s =>
    if s = wExec then .more { g with nodes := setN g.nodes { lastN g.nodes with kind := 2 } } [.word wNone, .word wData, .data, .word wClose]
    else if s = wData then .more g [.data, .word wClose]
    else .err 5
  | .inDir, s =>
    if s = wEntry then .more g [.word wOpen, .word wName, .name, .word wNode, .bracket, .word wClose, .inDir]
    else if s = wClose then .more { g with dirs := g.dirs.take (g.dirs.length - 1) } []
    else .err 5
  | .name, s =>
    if isNameB s.data.toList = false then .err 6
    else if notAbove s (lastD g.dirs).2 = true then .err 7
    else .more { g with dirs := setD g.dirs ((lastD g.dirs).1, s), path := (lastD g.dirs).1 ++ s } []
  | .data, s => if fits (lastN g.nodes).kind s.data.toList = true then .more { g with nodes := setN g.nodes { lastN g.nodes with data := s } } [] else .err 6

theorem take_word (g : Gr) (w s : ByteArray) : takeF g (.word w) s = if s = w then .more g [] else .err 5 := rfl
theorem take_bracket (g : Gr) (s : ByteArray) : takeF g .bracket s = if s = wOpen then (if 5 < g.dirs.length then .err 8 else if 30 ≤ g.nodes.length then .err 9 else .more ⟨g.nodes ++ [⟨g.path, 0, ⟨#[]⟩⟩], g.dirs, g.path⟩ [.word wType, .kind]) else .err 5 := rfl
theorem take_kind (g : Gr) (s : ByteArray) : takeF g .kind s =
    if s = wFile then .more ⟨setN g.nodes ⟨(lastN g.nodes).path, 1, (lastN g.nodes).data⟩, g.dirs, g.path⟩ [.inFile]
    else if s = wLink then .more ⟨setN g.nodes ⟨(lastN g.nodes).path, 3, (lastN g.nodes).data⟩, g.dirs, g.path⟩ [.word wTo, .data, .word wClose]
    else if s = wDir then .more ⟨setN g.nodes ⟨(lastN g.nodes).path, 4, (lastN g.nodes).data⟩, g.dirs ++ [(prefixIn (lastN g.nodes).path, ⟨#[]⟩)], g.path⟩ [.inDir]
    else .err 5 := rfl
theorem take_inFile (g : Gr) (s : ByteArray) : takeF g .inFile s =
    if s = wExec then .more ⟨setN g.nodes ⟨(lastN g.nodes).path, 2, (lastN g.nodes).data⟩, g.dirs, g.path⟩ [.word wNone, .word wData, .data, .word wClose]
    else if s = wData then .more g [.data, .word wClose]
    else .err 5 := rfl
theorem take_inDir (g : Gr) (s : ByteArray) : takeF g .inDir s =
    if s = wEntry then .more g [.word wOpen, .word wName, .name, .word wNode, .bracket, .word wClose, .inDir]
    else if s = wClose then .more ⟨g.nodes, g.dirs.take (g.dirs.length - 1), g.path⟩ []
    else .err 5 := rfl
theorem take_name (g : Gr) (s : ByteArray) : takeF g .name s =
    if isNameB s.data.toList = false then .err 6
    else if notAbove s (lastD g.dirs).2 = true then .err 7
    else .more ⟨g.nodes, setD g.dirs ((lastD g.dirs).1, s), (lastD g.dirs).1 ++ s⟩ [] := rfl
theorem take_data (g : Gr) (s : ByteArray) : takeF g .data s = if fits (lastN g.nodes).kind s.data.toList = true then .more ⟨setN g.nodes ⟨(lastN g.nodes).path, (lastN g.nodes).kind, s⟩, g.dirs, g.path⟩ [] else .err 6 := rfl

/-- The next string out of bytes. -/
inductive Ct where
  | wait
  | bad (e : Int)
  | ok (s : Bs) (rest : Bs) (n : Nat)
def num8 : Bs → Nat
  | [] => 0
  | b :: r => b.toNat + 256 * num8 r
def wholeOf (n : Nat) : Nat := 8 + n + padLen n
def cutF (l : Bs) (most : Nat) : Ct :=
  if l.length < 8 then .wait
  else if most < num8 (l.take 8) then .bad 3
  else if l.length < wholeOf (num8 (l.take 8)) then .wait
  else if ((l.take (wholeOf (num8 (l.take 8)))).drop (8 + num8 (l.take 8))).all (· == 0) = true then .ok ((l.drop 8).take (num8 (l.take 8))) (l.drop (wholeOf (num8 (l.take 8)))) (wholeOf (num8 (l.take 8)))
  else .bad 4

structure St where
  left : Bs
  pos : Nat
  list : List It
  gr : Gr
inductive OutG (σ : Type) where
  | go (st : σ)
  | stop
  | fail (e : Int) (place : Nat)
abbrev Out := OutG St
def stepF (st : St) : Out := match st.list with
  | [] => if st.left = [] then .stop else .fail 10 st.pos
  | i :: r => match cutF st.left i.most with
    | .wait => .stop
    | .bad e => .fail e st.pos
    | .ok s rest n => match takeF st.gr i ⟨s.toArray⟩ with
      | .err e => .fail e st.pos
      | .more g push => .go ⟨rest, st.pos + n, push ++ r, g⟩
/-- A reader: it goes on, or has failed. -/
inductive RdG (σ : Type) where
  | ok (st : σ)
  | bad (e : Int) (place : Nat)
abbrev Rd := RdG St
def runG {σ : Type} (stp : σ → OutG σ) : Nat → σ → RdG σ
  | 0, st => .ok st
  | f + 1, st => match stp st with
    | .go st' => runG stp f st'
    | .stop => .ok st
    | .fail e p => .bad e p
abbrev runS (f : Nat) (st : St) : Rd := runG stepF f st
def St.add (st : St) (s : Bs) : St := { st with left := st.left ++ s }
def feedF : Rd → Bs → Rd
  | .bad e p, _ => .bad e p
  | .ok st, s => runS (st.left.length + s.length) (st.add s)
def closeF : Rd → List Nd × Int × Nat
  | .bad e p => ([], e, p)
  | .ok st => if st.list = [] then (st.gr.nodes, 0, 0) else ([], 2, st.pos + st.left.length)
def rd0 : Rd := .ok ⟨[], 0, [.word wNar, .bracket], ⟨[], [], ⟨#[]⟩⟩⟩
def readF (s : Bs) : List Nd × Int × Nat := closeF (feedF rd0 s)

theorem wholeOf_ge (n : Nat) : 8 + n ≤ wholeOf n := by unfold wholeOf; omega
theorem cutF_ok {l : Bs} {m : Nat} {s r : Bs} {n : Nat} (h : cutF l m = .ok s r n) : 8 ≤ l.length ∧ num8 (l.take 8) ≤ m ∧ n = wholeOf (num8 (l.take 8)) ∧ n ≤ l.length ∧ s = (l.drop 8).take (num8 (l.take 8)) ∧ r = l.drop n ∧ ((l.take n).drop (8 + num8 (l.take 8))).all (· == 0) = true := by
  unfold cutF at h
  split at h
  · cases h
  · split at h
    · cases h
    · split at h
      · cases h
      · split at h
        · injection h with h1 h2 h3
          subst h1; subst h2; subst h3
          exact ⟨by omega, by omega, rfl, by omega, rfl, rfl, by assumption⟩
        · cases h
theorem cutF_len {l : Bs} {m : Nat} {s r : Bs} {n : Nat} (h : cutF l m = .ok s r n) : r.length + 8 ≤ l.length ∧ r.length + n = l.length ∧ s.length + 8 ≤ n ∧ s.length ≤ m := by
  obtain ⟨h1, h2, h3, h4, rfl, rfl, _⟩ := cutF_ok h
  have := wholeOf_ge (num8 (l.take 8))
  simp only [List.length_drop, List.length_take]
  omega
theorem take_app (l b : Bs) (n : Nat) (h : n ≤ l.length) : (l ++ b).take n = l.take n := List.take_append_of_le_length h
theorem cutF_app (l b : Bs) (m : Nat) : (∀ s r n, cutF l m = .ok s r n → cutF (l ++ b) m = .ok s (r ++ b) n) ∧ (∀ e, cutF l m = .bad e → cutF (l ++ b) m = .bad e) := by
  by_cases h8 : l.length < 8
  · have : cutF l m = .wait := by unfold cutF; rw [if_pos h8]
    rw [this]; exact ⟨(fun _ _ _ h => by cases h), (fun _ h => by cases h)⟩
  · have e8 := take_app l b 8 (by omega)
    have hl : (l ++ b).length = l.length + b.length := List.length_append
    by_cases hm : m < num8 (l.take 8)
    · have h1 : cutF l m = .bad 3 := by unfold cutF; rw [if_neg h8, if_pos hm]
      have h2 : cutF (l ++ b) m = .bad 3 := by unfold cutF; rw [if_neg (by omega), e8, if_pos hm]
      rw [h1, h2]; exact ⟨(fun _ _ _ h => by cases h), fun _ h => h⟩
    · by_cases hw : l.length < wholeOf (num8 (l.take 8))
      · have : cutF l m = .wait := by unfold cutF; rw [if_neg h8, if_neg hm, if_pos hw]
        rw [this]; exact ⟨(fun _ _ _ h => by cases h), (fun _ h => by cases h)⟩
      · have ew := take_app l b (wholeOf (num8 (l.take 8))) (by omega)
        have g := wholeOf_ge (num8 (l.take 8))
        by_cases hz : ((l.take (wholeOf (num8 (l.take 8)))).drop (8 + num8 (l.take 8))).all (· == 0) = true
        · have h1 : cutF l m = .ok ((l.drop 8).take (num8 (l.take 8))) (l.drop (wholeOf (num8 (l.take 8)))) (wholeOf (num8 (l.take 8))) := by
            unfold cutF; rw [if_neg h8, if_neg hm, if_neg hw, if_pos hz]
          have h2 : cutF (l ++ b) m = .ok ((l.drop 8).take (num8 (l.take 8))) (l.drop (wholeOf (num8 (l.take 8))) ++ b) (wholeOf (num8 (l.take 8))) := by
            unfold cutF; rw [if_neg (by omega), e8, if_neg hm, if_neg (by omega), ew, if_pos hz]
            rw [List.drop_append_of_le_length (by omega), List.drop_append_of_le_length (by omega), take_app _ _ _ (by rw [List.length_drop]; omega)]
          rw [h1, h2]
          refine ⟨fun s r n h => ?_, (fun _ h => by cases h)⟩
          injection h with a1 a2 a3
          subst a1; subst a2; subst a3; rfl
        · have h1 : cutF l m = .bad 4 := by unfold cutF; rw [if_neg h8, if_neg hm, if_neg hw, if_neg hz]
          have h2 : cutF (l ++ b) m = .bad 4 := by unfold cutF; rw [if_neg (by omega), e8, if_neg hm, if_neg (by omega), ew, if_neg hz]
          rw [h1, h2]; exact ⟨(fun _ _ _ h => by cases h), fun _ h => h⟩
theorem stepF_go {st st' : St} (h : stepF st = .go st') : st'.left.length + 8 ≤ st.left.length ∧ st'.pos + st'.left.length = st.pos + st.left.length := by
  unfold stepF at h
  split at h
  · split at h <;> cases h
  · split at h
    · cases h
    · cases h
    · rename_i s rest n hc
      have hl := cutF_len hc
      split at h
      · cases h
      · injection h with h; subst h
        simp only; omega
end Go.Proofs.YticcbaapbnfmmaaDoor
namespace Go.Proofs.YticcbaapbnfmmaaDoor
open Go.RowKit

structure Pt where
  left : Bs
  pos : Nat
  gr : Gr
/-- A failure: what, and where; or a point and more. -/
inductive Ex (α : Type) where
  | no (e : Int) (p : Nat)
  | yes (a : α)
def Ex.then {α β : Type} (x : Ex α) (f : α → Ex β) : Ex β := match x with
  | .no e p => .no e p
  | .yes a => f a
def one (i : It) (x : Pt) : Ex (Pt × List It) := match cutF x.left i.most with
  | .wait => .no 2 (x.pos + x.left.length)
  | .bad e => .no e x.pos
  | .ok s rest n => match takeF x.gr i ⟨s.toArray⟩ with
    | .err e => .no e x.pos
    | .more g push => .yes (⟨rest, x.pos + n, g⟩, push)
def exec : Nat → List It → Pt → Ex Pt
  | _, [], x => .yes x
  | 0, _ :: _, x => .no 2 (x.pos + x.left.length)
  | f + 1, i :: K, x => (one i x).then fun y => exec f (y.2 ++ K) y.1
theorem one_len {i : It} {x y : Pt} {l : List It} (h : one i x = .yes (y, l)) : y.left.length + 8 ≤ x.left.length ∧ y.pos + y.left.length = x.pos + x.left.length := by
  unfold one at h
  split at h
  · cases h
  · cases h
  · rename_i s rest n hc
    have hl := cutF_len hc
    split at h
    · cases h
    · injection h with h; injection h with h1 h2; subst h1
      simp only; omega
theorem one_none (i : It) (x : Pt) (h : x.left.length < 8) : one i x = .no 2 (x.pos + x.left.length) := by
  unfold one cutF; rw [if_pos h]
theorem exec_fuel : ∀ (f g : Nat) (K : List It) (x : Pt), x.left.length ≤ f → x.left.length ≤ g → exec f K x = exec g K x
  | f, g, [], x, _, _ => by cases f <;> cases g <;> rfl
  | 0, 0, _ :: _, _, _, _ => rfl
  | 0, g + 1, i :: K, x, h, _ => by simp only [exec]; rw [one_none i x (by omega)]; rfl
  | f + 1, 0, i :: K, x, _, h => by simp only [exec]; rw [one_none i x (by omega)]; rfl
  | f + 1, g + 1, i :: K, x, hf, hg => by
    simp only [exec]
    cases h : one i x with
    | no e p => rfl
    | yes y =>
      obtain ⟨y, l⟩ := y
      have := one_len h
      exact exec_fuel f g (l ++ K) y (by omega) (by omega)
/-- Enough fuel. -/
def run (K : List It) (x : Pt) : Ex Pt := exec x.left.length K x
theorem run_nil (x : Pt) : run [] x = .yes x := by unfold run; cases x.left.length <;> rfl
theorem run_of (f : Nat) (K : List It) (x : Pt) (h : x.left.length ≤ f) : exec f K x = run K x := exec_fuel _ _ _ _ h (Nat.le_refl _)
theorem run_cons (i : It) (K : List It) (x : Pt) : run (i :: K) x = (one i x).then fun y => run (y.2 ++ K) y.1 := by
  rw [← run_of (x.left.length + 1) _ _ (by omega)]
  simp only [exec]
  cases h : one i x with
  | no e p => rfl
  | yes y =>
    obtain ⟨y, l⟩ := y
    have := one_len h
    exact run_of _ _ _ (by show y.left.length ≤ _; omega)
theorem run_append : ∀ (f : Nat) (K L : List It) (x : Pt), x.left.length ≤ f → run (K ++ L) x = (run K x).then (run L)
  | f, [], L, x, _ => by rw [run_nil]; rfl
  | 0, i :: K, L, x, h => by
    rw [List.cons_append, run_cons, run_cons, one_none i x (by omega)]; rfl
  | f + 1, i :: K, L, x, hf => by
    rw [List.cons_append, run_cons, run_cons]
    cases h : one i x with
    | no e p => rfl
    | yes y =>
      obtain ⟨y, l⟩ := y
      have := one_len h
      show run (l ++ (K ++ L)) y = (run (l ++ K) y).then (run L)
      rw [← List.append_assoc]
      exact run_append f (l ++ K) L y (by omega)
theorem run_app (K L : List It) (x : Pt) : run (K ++ L) x = (run K x).then (run L) := run_append _ K L x (Nat.le_refl _)
/-- What is told of bytes that have all come. -/
def told : Ex Pt → List Nd × Int × Nat
  | .no e p => ([], e, p)
  | .yes x => if x.left = [] then (x.gr.nodes, 0, 0) else ([], 10, x.pos)
theorem close_run : ∀ (f : Nat) (left : Bs) (pos : Nat) (K : List It) (g : Gr), left.length ≤ f → closeF (runS f ⟨left, pos, K, g⟩) = told (exec f K ⟨left, pos, g⟩)
  | 0, left, pos, K, g, h => by
    have h0 : left = [] := List.eq_nil_of_length_eq_zero (by omega)
    subst h0
    cases K with
    | nil => simp [runS, runG, closeF, exec, told]
    | cons i K => simp [runS, runG, closeF, exec, told]
  | f + 1, left, pos, [], g, h => by
    simp only [runS, runG, stepF]
    by_cases h0 : left = []
    · subst h0; simp [closeF, exec, told]
    · rw [if_neg h0]; simp [closeF, exec, told, h0]
  | f + 1, left, pos, i :: K, g, h => by
    simp only [runS, runG, stepF, exec, one]
    cases hc : cutF left i.most with
    | wait => simp [closeF, told, Ex.then]
    | bad e => simp [closeF, told, Ex.then]
    | ok s rest n =>
      have hl := cutF_len hc
      simp only
      cases ht : takeF g i ⟨s.toArray⟩ with
      | err e => simp [closeF, told, Ex.then]
      | more g' push => simp only [Ex.then]; exact close_run f rest (pos + n) (push ++ K) g' (by omega)
theorem readF_run (s : Bs) : readF s = told (run [.word wNar, .bracket] ⟨s, 0, ⟨[], [], ⟨#[]⟩⟩⟩) := by
  unfold readF rd0 feedF run
  simp only [List.length_nil, Nat.zero_add, St.add, List.nil_append]
  exact close_run _ _ _ _ _ (Nat.le_refl _)

/-! a string that was written is cut out again -/
theorem num8_le : ∀ (k H : Nat), num8 (le (H : Int) k) = H % 256 ^ k := by
  intro k
  have key : ∀ (k : Nat) (H : Nat) (j : Nat), num8 ((List.range' j k).map (byteAt (H : Int))) = H / 256 ^ j % 256 ^ k := by
    intro k
    induction k with
    | zero => intro H j; simp [num8, Nat.mod_one]
    | succ k ih =>
      intro H j
      rw [List.range'_succ, List.map_cons, num8, ih H (j + 1)]
      have hb : (byteAt (H : Int) j).toNat = H / 256 ^ j % 256 := by
        have := byteAt_val (H : Int) j
        have e : ((2 : Int) ^ (8 * j)) = ((256 ^ j : Nat) : Int) := by rw [Int.natCast_pow, Int.pow_mul]; rfl
        rw [e] at this
        omega
      rw [hb, Nat.pow_succ, ← Nat.div_div_eq_div_mul]
      have h2 := Nat.mod_mul (x := H / 256 ^ j) (a := 256) (b := 256 ^ k)
      rw [Nat.pow_succ, Nat.mul_comm (256 ^ k) 256, h2]
  intro H
  have := key k H 0
  simp only [Nat.pow_zero, Nat.div_one] at this
  rw [← this]
  unfold le
  rw [List.range_eq_range']
theorem enc_len (l : Bs) : (enc l).length = wholeOf l.length := by simp [enc, le_length, wholeOf]; omega
theorem enc_take (l rest : Bs) : (enc l ++ rest).take 8 = le (l.length : Int) 8 := by
  unfold enc
  rw [List.append_assoc, List.append_assoc]
  exact List.take_left' (le_length _ _)
theorem cut_enc (s rest : Bs) (m : Nat) (hm : s.length ≤ m) (hs : s.length < 18446744073709551616) : cutF (enc s ++ rest) m = .ok s rest (enc s).length := by
  have hn : num8 ((enc s ++ rest).take 8) = s.length := by
    rw [enc_take, num8_le]; exact Nat.mod_eq_of_lt (by simpa using hs)
  have hl : (enc s ++ rest).length = wholeOf s.length + rest.length := by rw [List.length_append, enc_len]
  have hg := wholeOf_ge s.length
  have hdrop : (enc s ++ rest).drop (wholeOf s.length) = rest := by rw [← enc_len]; exact List.drop_left
  have htake : (enc s ++ rest).take (wholeOf s.length) = enc s := by rw [← enc_len]; exact List.take_left
  unfold cutF
  rw [hn, if_neg (by omega), if_neg (by omega), if_neg (by omega), htake, hdrop, enc_len]
  have hd8 : (enc s ++ rest).drop 8 = s ++ (List.replicate (padLen s.length) 0 ++ rest) := by
    unfold enc
    rw [List.append_assoc, List.append_assoc, List.drop_left' (le_length _ _)]
  have hd : (enc s).drop (8 + s.length) = List.replicate (padLen s.length) 0 := by
    unfold enc
    exact List.drop_left' (by rw [List.length_append, le_length])
  rw [if_pos (by rw [hd]; simp), hd8, List.take_left]
/-- What was cut out was written so. -/
theorem num8_lt : ∀ (l : Bs), num8 l < 256 ^ l.length
  | [] => by simp [num8]
  | b :: r => by
    have h1 := num8_lt r
    have h2 := b.toNat_lt
    rw [num8, List.length_cons, Nat.pow_succ]
    omega
end Go.Proofs.YticcbaapbnfmmaaDoor
namespace Go.Proofs.YticcbaapbnfmmaaDoor
open Go.RowKit

theorem decodeN_le4 (n b0 b1 b2 b3 : Nat) : (Lib.decodeN n b0 b1 b2 b3).2 ≤ 4 := by
  unfold Lib.decodeN
  repeat' split
  all_goals simp
theorem decodeL_le4 (l : Bs) : (Lib.decodeL l).2 ≤ 4 := by
  show (Utf8.decode _ _).2 ≤ 4
  rw [Lib.decode_at]; exact decodeN_le4 _ _ _ _ _
theorem letters_len : ∀ (n : Nat) (l : Bs) (k : Nat), l.length ≤ n → letters l = some k → l.length ≤ 4 * k
  | 0, l, k, h, _ => by omega
  | n + 1, l, k, h, hk => by
    by_cases hl : l = []
    · subst hl; simp
    · rw [letters_step l hl] at hk
      have hw := Lib.decodeL_width l
      have h4 := decodeL_le4 l
      have hlen : 0 < l.length := List.length_pos_iff.2 hl
      split at hk
      · cases hk
      · cases hr : letters (l.drop (Lib.decodeL l).2) with
        | none => rw [hr] at hk; cases hk
        | some j =>
          rw [hr] at hk
          have hk : j + 1 = k := by simpa using hk
          have := letters_len n _ j (by rw [List.length_drop]; omega) hr
          rw [List.length_drop] at this
          omega
theorem name_len (l : Bs) (h : isNameB l = true) : l.length ≤ 48 := by
  unfold isNameB at h
  cases hl : letters l with
  | none => rw [hl] at h; simp at h
  | some n =>
    rw [hl] at h
    have := letters_len _ l n (Nat.le_refl _) hl
    simp at h
    omega

/-- Bytes that a list of what must come takes, whatever follows. -/
def Rds (K : List It) (b : Bs) (g g' : Gr) : Prop := ∀ rest pos, run K ⟨b ++ rest, pos, g⟩ = .yes ⟨rest, pos + b.length, g'⟩
theorem Rds.nil (g : Gr) : Rds [] [] g g := fun rest pos => by rw [run_nil]; simp
theorem Rds.app {K L : List It} {a b : Bs} {g g1 g2 : Gr} (h : Rds K a g g1) (k : Rds L b g1 g2) : Rds (K ++ L) (a ++ b) g g2 := fun rest pos => by
  rw [run_app, List.append_assoc, h, Ex.then, k, List.length_append, Nat.add_assoc]
theorem Rds.cons {i : It} {L : List It} {a b : Bs} {g g1 g2 : Gr} (h : Rds [i] a g g1) (k : Rds L b g1 g2) : Rds (i :: L) (a ++ b) g g2 := Rds.app (K := [i]) h k
theorem ba_eta (s : ByteArray) : (⟨s.data.toList.toArray⟩ : ByteArray) = s := rfl
theorem Rds.step {i : It} {s : ByteArray} {b : Bs} {g g1 g2 : Gr} {push : List It} (ht : takeF g i s = .more g1 push) (hs : s.size ≤ i.most) (hk : Rds push b g1 g2) : Rds [i] (enc s.data.toList ++ b) g g2 := fun rest pos => by
  have hm : i.most ≤ 100 := by cases i <;> simp [It.most]
  have hl : s.data.toList.length = s.size := by simp
  rw [run_cons]
  unfold one
  simp only
  rw [List.append_assoc, cut_enc _ _ _ (by omega) (by omega)]
  simp only [ba_eta, ht, Ex.then, List.append_nil]
  rw [hk, List.length_append, Nat.add_assoc]
theorem Rds.one {i : It} {s : ByteArray} {g g1 : Gr} (ht : takeF g i s = .more g1 []) (hs : s.size ≤ i.most) : Rds [i] (enc s.data.toList) g g1 := by
  have := Rds.step ht hs (Rds.nil g1)
  rwa [List.append_nil] at this
theorem Rds.word (w : ByteArray) (g : Gr) (h : w.size ≤ 8) : Rds [.word w] (enc w.data.toList) g g := Rds.one (by rw [take_word, if_pos rfl]) h

theorem lastN_snoc (l : List Nd) (x : Nd) : lastN (l ++ [x]) = x := by simp [lastN]
theorem setN_snoc (l : List Nd) (x y : Nd) : setN (l ++ [x]) y = l ++ [y] := by simp [setN]
theorem lastD_snoc (l : Ds) (x : ByteArray × ByteArray) : lastD (l ++ [x]) = x := by simp [lastD]
theorem setD_snoc (l : Ds) (x y : ByteArray × ByteArray) : setD (l ++ [x]) y = l ++ [y] := by simp [setD]
theorem bytes1 (a : ByteArray) : bytesOf [a] = enc a.data.toList := by simp [bytesOf, encs]
theorem bytes2 (a b : ByteArray) : bytesOf [a, b] = enc a.data.toList ++ enc b.data.toList := by simp [bytesOf, encs]
theorem bytes3 (a b c : ByteArray) : bytesOf [a, b, c] = enc a.data.toList ++ (enc b.data.toList ++ enc c.data.toList) := by simp [bytesOf, encs]
theorem bytes5 (a b c d e : ByteArray) : bytesOf [a, b, c, d, e] = enc a.data.toList ++ (enc b.data.toList ++ (enc c.data.toList ++ (enc d.data.toList ++ enc e.data.toList))) := by simp [bytesOf, encs]

/-- A node begins. -/
theorem rds_bracket (ns : List Nd) (D : Ds) (path : ByteArray) (b : Bs) (g : Gr) (hD : D.length ≤ 5) (hn : ns.length < 30) (h : Rds [.kind] b ⟨ns ++ [⟨path, 0, ⟨#[]⟩⟩], D, path⟩ g) : Rds [.bracket] (enc wOpen.data.toList ++ (enc wType.data.toList ++ b)) ⟨ns, D, path⟩ g := by
  refine Rds.step (s := wOpen) (push := [.word wType, .kind]) (g1 := ⟨ns ++ [⟨path, 0, ⟨#[]⟩⟩], D, path⟩) ?_ (by decide) ?_
  · rw [take_bracket, if_pos rfl, if_neg (by simp only; omega), if_neg (by simp only; omega)]
  · exact Rds.cons (Rds.word wType _ (by decide)) h
theorem fits_data (k : Int) (d : Bs) (h : fits k d = true) : d.length ≤ 100 := by
  unfold fits at h
  split at h
  · simp at h; omega
  · split at h
    · simpa using h
    · split at h
      · have : d = [] := by simpa using h
        subst this; simp
      · cases h
theorem rds_data (ns : List Nd) (D : Ds) (p path : ByteArray) (k : Int) (d : ByteArray) (hf : fits k d.data.toList = true) : Rds [.data, .word wClose] (enc d.data.toList ++ enc wClose.data.toList) ⟨ns ++ [⟨p, k, ⟨#[]⟩⟩], D, path⟩ ⟨ns ++ [⟨p, k, d⟩], D, path⟩ := by
  have hl : d.data.toList.length = d.size := by simp
  have := fits_data _ _ hf
  refine Rds.cons (Rds.one ?_ (by show d.size ≤ 100; omega)) (Rds.word wClose _ (by decide))
  rw [take_data]
  simp only [lastN_snoc, setN_snoc, hf, if_pos]
theorem ne_data_exec : ¬ wData = wExec := by decide
theorem ne_link_file : ¬ wLink = wFile := by decide
theorem ne_dir_file : ¬ wDir = wFile := by decide
theorem ne_dir_link : ¬ wDir = wLink := by decide
theorem size_data : wData.size ≤ 8 := by decide
theorem size_exec : wExec.size ≤ 8 := by decide
theorem size_none : wNone.size ≤ 8 := by decide
theorem size_file : wFile.size ≤ 8 := by decide
theorem size_link : wLink.size ≤ 8 := by decide
theorem size_dir : wDir.size ≤ 8 := by decide
theorem size_to : wTo.size ≤ 8 := by decide
theorem word1 : wordOf 1 = wFile := rfl
theorem word2 : wordOf 2 = wFile := rfl
theorem word3 : wordOf 3 = wLink := rfl
theorem word4 : wordOf 4 = wDir := rfl
theorem nodeF1 (E : List Nd → ByteArray → List UInt8 × List Nd) (path data : ByteArray) (r : List Nd) : (nodeF E ⟨path, 1, data⟩ r).1 = enc wOpen.data.toList ++ (enc wType.data.toList ++ (enc wFile.data.toList ++ (enc wData.data.toList ++ (enc data.data.toList ++ enc wClose.data.toList)))) := by
  simp only [nodeF, bodyF, bytes1, bytes2, bytes3, word1, if_neg (show ¬ (1 : Int) = 4 by decide), if_neg (show ¬ (1 : Int) = 2 by decide), if_true, List.append_assoc]
theorem nodeF2 (E : List Nd → ByteArray → List UInt8 × List Nd) (path data : ByteArray) (r : List Nd) : (nodeF E ⟨path, 2, data⟩ r).1 = enc wOpen.data.toList ++ (enc wType.data.toList ++ (enc wFile.data.toList ++ (enc wExec.data.toList ++ (enc wNone.data.toList ++ (enc wData.data.toList ++ (enc data.data.toList ++ enc wClose.data.toList)))))) := by
  simp only [nodeF, bodyF, bytes1, bytes2, bytes3, word2, if_neg (show ¬ (2 : Int) = 4 by decide), if_true, List.append_assoc]
theorem nodeF3 (E : List Nd → ByteArray → List UInt8 × List Nd) (path data : ByteArray) (r : List Nd) : (nodeF E ⟨path, 3, data⟩ r).1 = enc wOpen.data.toList ++ (enc wType.data.toList ++ (enc wLink.data.toList ++ (enc wTo.data.toList ++ (enc data.data.toList ++ enc wClose.data.toList)))) := by
  simp only [nodeF, bodyF, bytes1, bytes2, bytes3, word3, if_neg (show ¬ (3 : Int) = 4 by decide), if_neg (show ¬ (3 : Int) = 2 by decide), if_neg (show ¬ (3 : Int) = 1 by decide), if_true, List.append_assoc]
theorem nodeF4 (E : List Nd → ByteArray → List UInt8 × List Nd) (path data : ByteArray) (r : List Nd) : (nodeF E ⟨path, 4, data⟩ r).1 = enc wOpen.data.toList ++ (enc wType.data.toList ++ (enc wDir.data.toList ++ ((E r (prefixIn path)).1 ++ enc wClose.data.toList))) := by
  simp only [nodeF, bodyF, bytes1, bytes3, word4, if_true, List.append_assoc]
theorem nodeF_leaf (E : List Nd → ByteArray → List UInt8 × List Nd) (n : Nd) (r : List Nd) (h : n.kind ≠ 4) : (nodeF E n r).2 = r := by
  unfold nodeF bodyF; simp only; rw [if_neg h]
/-- A file or a link. -/
theorem rds_leaf (E : List Nd → ByteArray → List UInt8 × List Nd) (ns : List Nd) (D : Ds) (n : Nd) (r : List Nd) (hD : D.length ≤ 5) (hn : ns.length < 30) (hf : fits n.kind n.data.data.toList = true) (hk : n.kind ≠ 4) :
    Rds [.bracket] (nodeF E n r).1 ⟨ns, D, n.path⟩ ⟨ns ++ [n], D, n.path⟩ := by
  obtain ⟨path, kind, data⟩ := n
  simp only at hf hk ⊢
  rcases fits_kind _ _ hf with rfl | rfl | rfl | rfl
  · rw [nodeF1]
    have hA := rds_data ns D path path 1 data hf
    have tB : takeF ⟨ns ++ [⟨path, 1, ⟨#[]⟩⟩], D, path⟩ .inFile wData = .more ⟨ns ++ [⟨path, 1, ⟨#[]⟩⟩], D, path⟩ [.data, .word wClose] := by rw [take_inFile, if_neg ne_data_exec, if_pos rfl]
    have hB := Rds.step tB size_data hA
    have tC : takeF ⟨ns ++ [⟨path, 0, ⟨#[]⟩⟩], D, path⟩ .kind wFile = .more ⟨ns ++ [⟨path, 1, ⟨#[]⟩⟩], D, path⟩ [.inFile] := by rw [take_kind, if_pos rfl, lastN_snoc, setN_snoc]
    exact rds_bracket ns D path _ _ hD hn (Rds.step tC size_file hB)
  · rw [nodeF2]
    have hA := rds_data ns D path path 2 data hf
    have tB : takeF ⟨ns ++ [⟨path, 1, ⟨#[]⟩⟩], D, path⟩ .inFile wExec = .more ⟨ns ++ [⟨path, 2, ⟨#[]⟩⟩], D, path⟩ [.word wNone, .word wData, .data, .word wClose] := by rw [take_inFile, if_pos rfl, lastN_snoc, setN_snoc]
    have hB := Rds.step tB size_exec (Rds.cons (Rds.word wNone _ size_none) (Rds.cons (Rds.word wData _ size_data) hA))
    have tC : takeF ⟨ns ++ [⟨path, 0, ⟨#[]⟩⟩], D, path⟩ .kind wFile = .more ⟨ns ++ [⟨path, 1, ⟨#[]⟩⟩], D, path⟩ [.inFile] := by rw [take_kind, if_pos rfl, lastN_snoc, setN_snoc]
    exact rds_bracket ns D path _ _ hD hn (Rds.step tC size_file hB)
  · rw [nodeF3]
    have hA := rds_data ns D path path 3 data hf
    have tC : takeF ⟨ns ++ [⟨path, 0, ⟨#[]⟩⟩], D, path⟩ .kind wLink = .more ⟨ns ++ [⟨path, 3, ⟨#[]⟩⟩], D, path⟩ [.word wTo, .data, .word wClose] := by rw [take_kind, if_neg ne_link_file, if_pos rfl, lastN_snoc, setN_snoc]
    exact rds_bracket ns D path _ _ hD hn (Rds.step tC size_link (Rds.cons (Rds.word wTo _ size_to) hA))
  · exact absurd rfl hk
/-- A directory, up to its end. -/
theorem rds_dir (E : List Nd → ByteArray → List UInt8 × List Nd) (ns : List Nd) (D : Ds) (path : ByteArray) (r : List Nd) (g : Gr) (hD : D.length ≤ 5) (hn : ns.length < 30)
    (h : Rds [.inDir] ((E r (prefixIn path)).1 ++ enc wClose.data.toList) ⟨ns ++ [⟨path, 4, ⟨#[]⟩⟩], D ++ [(prefixIn path, ⟨#[]⟩)], path⟩ g) :
    Rds [.bracket] (nodeF E ⟨path, 4, ⟨#[]⟩⟩ r).1 ⟨ns, D, path⟩ g := by
  rw [nodeF4]
  have tC : takeF ⟨ns ++ [⟨path, 0, ⟨#[]⟩⟩], D, path⟩ .kind wDir = .more ⟨ns ++ [⟨path, 4, ⟨#[]⟩⟩], D ++ [(prefixIn path, ⟨#[]⟩)], path⟩ [.inDir] := by rw [take_kind, if_neg ne_dir_file, if_neg ne_dir_link, if_pos rfl, lastN_snoc, setN_snoc]
  exact rds_bracket ns D path _ _ hD hn (Rds.step tC size_dir h)
theorem rds_end (ns : List Nd) (D : Ds) (x : ByteArray × ByteArray) (path : ByteArray) : Rds [.inDir] (enc wClose.data.toList) ⟨ns, D ++ [x], path⟩ ⟨ns, D, path⟩ := by
  refine Rds.one ?_ (by decide)
  rw [take_inDir, if_neg (by decide), if_pos rfl]; simp
/-- An entry's head. -/
theorem rds_entry (ns : List Nd) (D : Ds) (P last nm p0 : ByteArray) (b1 b2 : Bs) (g1 g2 : Gr) (hn : isNameB nm.data.toList = true) (ha : notAbove nm last = false)
    (h1 : Rds [.bracket] b1 ⟨ns, D ++ [(P, nm)], P ++ nm⟩ g1) (h2 : Rds [.inDir] b2 g1 g2) :
    Rds [.inDir] (bytesOf [wEntry, wOpen, wName, nm, wNode] ++ b1 ++ bytesOf [wClose] ++ b2) ⟨ns, D ++ [(P, last)], p0⟩ g2 := by
  have hl : nm.data.toList.length = nm.size := by simp
  have h48 := name_len _ hn
  have e : bytesOf [wEntry, wOpen, wName, nm, wNode] ++ b1 ++ bytesOf [wClose] ++ b2 = enc wEntry.data.toList ++ (enc wOpen.data.toList ++ (enc wName.data.toList ++ (enc nm.data.toList ++ (enc wNode.data.toList ++ (b1 ++ (enc wClose.data.toList ++ b2)))))) := by
    rw [bytes5, bytes1]; simp only [List.append_assoc]
  rw [e]
  refine Rds.step (s := wEntry) (push := [.word wOpen, .word wName, .name, .word wNode, .bracket, .word wClose, .inDir]) (g1 := ⟨ns, D ++ [(P, last)], p0⟩) ?_ (by decide) ?_
  · rw [take_inDir, if_pos rfl]
  · refine Rds.cons (Rds.word wOpen _ (by decide)) (Rds.cons (Rds.word wName _ (by decide)) (Rds.cons (g1 := ⟨ns, D ++ [(P, nm)], P ++ nm⟩) (Rds.one ?_ (by show nm.size ≤ 48; omega)) (Rds.cons (Rds.word wNode _ (by decide)) (Rds.cons h1 (Rds.cons (Rds.word wClose _ (by decide)) h2)))))
    rw [take_name]
    simp only [lastD_snoc, setD_snoc]
    rw [if_neg (by rw [hn]; simp), if_neg (by rw [ha]; simp)]

theorem above_get : ∀ (ds : Ds) (p : ByteArray) (k : Nat), above ds p = k + 1 → ∃ h : k < ds.length, ds[k].1 = p
  | [], p, k, h => by simp [above] at h
  | d :: r, p, k, h => by
    simp only [above] at h
    split at h
    · obtain rfl : k = 0 := by omega
      exact ⟨by simp, by assumption⟩
    · split at h
      · omega
      · obtain ⟨j, rfl⟩ : ∃ j, k = j + 1 := ⟨k - 1, by omega⟩
        obtain ⟨h1, h2⟩ := above_get r p j (by omega)
        exact ⟨by simp; omega, by simpa using h2⟩
/-- Where the loop over a directory's entries stands. -/
structure EH (l : List Nd) (D0 : Ds) (P last : ByteArray) (Dx Z : Ds) (k : Nat) : Prop where
  run : runF k Dx l = some Z
  k0 : k ≠ 0
  pref : D0 ++ [(P, last)] <+: Dx
  inc : ∀ d ∈ D0, d.1.size < P.size
  head : ∀ n, l.head? = some n → above Dx (pre n.path) ≤ D0.length + 1
theorem runF_cons {k : Nat} {Dx Z : Ds} {n : Nd} {r : List Nd} (h : runF k Dx (n :: r) = some Z) : ∃ Dy, stepW k Dx n = some Dy ∧ runF (k + 1) Dy r = some Z := by
  simp only [runF] at h
  cases hs : stepW k Dx n with
  | none => rw [hs] at h; cases h
  | some Dy => rw [hs] at h; exact ⟨Dy, rfl, h⟩
theorem pre_nam (s : ByteArray) : pre s ++ nam s = s := by
  apply ByteArray.ext; apply Array.toList_inj.1
  rw [data_append, pre_data, nam_data, split_eq]
theorem prefixIn_size (s : ByteArray) (h : s.data.toList ≠ []) : (prefixIn s).size = s.size + 1 := by
  unfold prefixIn; rw [if_neg h, ByteArray.size_append]; rfl
/-- What the look tells of an entry. -/
theorem look_entry {n : Nd} {r : List Nd} {D0 : Ds} {P last : ByteArray} {Dx Z : Ds} {k : Nat} (h : EH (n :: r) D0 P last Dx Z k) (hp : pre n.path = P) :
    k < 30 ∧ D0.length + 1 ≤ 5 ∧ fits n.kind n.data.data.toList = true ∧ isNameB (nam n.path).data.toList = true ∧ notAbove (nam n.path) last = false ∧ runF (k + 1) (enterL (D0 ++ [(P, nam n.path)]) n.path n.kind) r = some Z := by
  obtain ⟨Dy, hs, hr⟩ := runF_cons h.run
  unfold stepW at hs
  split at hs
  · rename_i hc
    rw [if_neg h.k0] at hs
    obtain ⟨ext, hext⟩ := h.pref
    have hget : ∀ j (hj : j < Dx.length), j < D0.length → Dx[j].1 ≠ P := fun j hj hlt e => by
      have : Dx[j] = D0[j] := by
        subst hext
        rw [List.getElem_append_left (by simp; omega), List.getElem_append_left hlt]
      rw [this] at e
      have := h.inc D0[j] (List.getElem_mem _)
      rw [e] at this; omega
    have hlen : D0.length < Dx.length := by rw [← hext]; simp
    have htop : Dx[D0.length] = (P, last) := by subst hext; simp
    have hab : above Dx P = D0.length + 1 := above_at Dx P D0.length hlen (by rw [htop]) hget
    have hgD : Dx.getD D0.length (⟨#[]⟩, ⟨#[]⟩) = (P, last) := by simp [List.getD, hlen, htop]
    have htk : Dx.take (D0.length + 1) = D0 ++ [(P, last)] := by
      subst hext; exact List.take_left' (by simp)
    unfold placeRest at hs
    simp only [hp, hab, Nat.add_sub_cancel, hgD, htk] at hs
    split at hs
    · cases hs
    · rename_i h5
      split at hs
      · cases hs
      · rename_i hnm
        split at hs
        · cases hs
        · rename_i hna
          injection hs with hs
          have e : (D0 ++ [(P, last)]).set D0.length (P, nam n.path) = D0 ++ [(P, nam n.path)] := by simp
          rw [e] at hs
          subst hs
          exact ⟨hc.1, by omega, hc.2, by simpa using hnm, by simpa using hna, hr⟩
  · cases hs
theorem isName_ne (s : Bs) (h : isNameB s = true) : s ≠ [] := fun e => by subst e; simp [isNameB, letters_nil] at h
/-- A directory's entries. -/
theorem ents_read : ∀ (f : Nat) (l : List Nd) (D0 : Ds) (P last : ByteArray) (Dx Z : Ds) (ns : List Nd) (p0 : ByteArray), l.length ≤ f → EH l D0 P last Dx Z ns.length →
    ∃ (cons : List Nd) (last' : ByteArray) (Dx' : Ds) (p' : ByteArray), l = cons ++ (entsF f l P).2 ∧ D0 ++ [(P, last')] <+: Dx' ∧ runF (ns.length + cons.length) Dx' (entsF f l P).2 = some Z ∧ (∀ n, (entsF f l P).2.head? = some n → above Dx' (pre n.path) ≤ D0.length) ∧
      ∀ (b : Bs) (g : Gr), Rds [.inDir] b ⟨ns ++ cons, D0 ++ [(P, last')], p'⟩ g → Rds [.inDir] ((entsF f l P).1 ++ b) ⟨ns, D0 ++ [(P, last)], p0⟩ g
  | 0, l, D0, P, last, Dx, Z, ns, p0, hl, h => by
    have : l = [] := List.eq_nil_of_length_eq_zero (by omega)
    subst this
    exact ⟨[], last, Dx, p0, rfl, h.pref, h.run, (fun n hn => by cases hn), fun b g hb => by simpa [entsF] using hb⟩
  | f + 1, [], D0, P, last, Dx, Z, ns, p0, hl, h => ⟨[], last, Dx, p0, rfl, h.pref, h.run, (fun n hn => by cases hn), fun b g hb => by simpa [entsF] using hb⟩
  | f + 1, n :: r, D0, P, last, Dx, Z, ns, p0, hl, h => by
    by_cases hp : pre n.path = P
    · obtain ⟨hk, h5, hf, hnm, hna, hrun⟩ := look_entry h hp
      have hpath : P ++ nam n.path = n.path := by rw [← hp, pre_nam]
      have hE1 : (entsF (f + 1) (n :: r) P).1 = bytesOf [wEntry, wOpen, wName, nam n.path, wNode] ++ (nodeF (entsF f) n r).1 ++ bytesOf [wClose] ++ (entsF f (nodeF (entsF f) n r).2 P).1 := by simp only [entsF, if_pos hp]
      have hE2 : (entsF (f + 1) (n :: r) P).2 = (entsF f (nodeF (entsF f) n r).2 P).2 := by simp only [entsF, if_pos hp]
      rw [hE1, hE2]
      have hl' : r.length ≤ f := by simpa using hl
      have hDl : (D0 ++ [(P, nam n.path)]).length ≤ 5 := by simp; omega
      by_cases h4 : n.kind = 4
      · obtain ⟨path, kind, data⟩ := n
        simp only at h4 hf hp hpath hnm hna hrun hDl ⊢
        subst h4
        have hd : data = ⟨#[]⟩ := by
          unfold fits at hf
          simp at hf
          apply ByteArray.ext; exact hf
        subst hd
        have hen : enterL (D0 ++ [(P, nam path)]) path 4 = (D0 ++ [(P, nam path)]) ++ [(prefixIn path, ⟨#[]⟩)] := by unfold enterL; rw [if_pos rfl]
        rw [hen] at hrun
        have hpne : path.data.toList ≠ [] := by
          rw [← hpath, data_append]
          have := isName_ne _ hnm
          simp [this]
        have hps : path.size = P.size + (nam path).size := by conv => lhs; rw [← hpath, ByteArray.size_append]
        obtain ⟨c1, last1, Dx1, p1, e1, q1, r1, d1, t1⟩ := ents_read f r (D0 ++ [(P, nam path)]) (prefixIn path) ⟨#[]⟩ _ Z (ns ++ [⟨path, 4, ⟨#[]⟩⟩]) path hl'
          ⟨by simpa using hrun, by simp, List.prefix_refl _, fun d hd => by
            rw [prefixIn_size _ hpne]
            rcases List.mem_append.1 hd with hd | hd
            · have := h.inc d hd; omega
            · rw [List.mem_singleton] at hd; subst hd; simp only; omega, fun m hm => by have := above_le ((D0 ++ [(P, nam path)]) ++ [(prefixIn path, ⟨#[]⟩)]) (pre m.path); simpa using this⟩
        have hN2 : (nodeF (entsF f) ⟨path, 4, ⟨#[]⟩⟩ r).2 = (entsF f r (prefixIn path)).2 := by simp only [nodeF, bodyF, if_true]
        rw [hN2]
        have hlen2 : (entsF f r (prefixIn path)).2.length ≤ f := by
          have := congrArg List.length e1
          rw [List.length_append] at this; omega
        obtain ⟨c2, last2, Dx2, p2, e2, q2, r2, d2, t2⟩ := ents_read f (entsF f r (prefixIn path)).2 D0 P (nam path) Dx1 Z (ns ++ [⟨path, 4, ⟨#[]⟩⟩] ++ c1) p1 hlen2
          ⟨by simpa [Nat.add_assoc, Nat.add_comm 1] using r1, by simp, (List.prefix_append _ _).trans q1, h.inc, fun m hm => by simpa using d1 m hm⟩
        refine ⟨⟨path, 4, ⟨#[]⟩⟩ :: c1 ++ c2, last2, Dx2, p2, ?_, q2, ?_, d2, fun b g hb => ?_⟩
        · rw [List.cons_append, List.cons_append, List.append_assoc, ← e2, ← e1]
        · rw [show ns.length + ((⟨path, 4, ⟨#[]⟩⟩ : Nd) :: c1 ++ c2).length = (ns ++ [(⟨path, 4, ⟨#[]⟩⟩ : Nd)] ++ c1).length + c2.length by simp; omega]; exact r2
        · rw [List.append_assoc]
          refine rds_entry ns D0 P last (nam path) p0 _ _ ⟨ns ++ [⟨path, 4, ⟨#[]⟩⟩] ++ c1, D0 ++ [(P, nam path)], p1⟩ g hnm hna ?_ (t2 b g (by simpa using hb))
          rw [hpath]
          refine rds_dir (entsF f) ns _ path r _ hDl (by omega) (t1 _ _ ?_)
          exact rds_end _ _ _ _
      · have hen : enterL (D0 ++ [(P, nam n.path)]) n.path n.kind = D0 ++ [(P, nam n.path)] := by unfold enterL; rw [if_neg h4]
        rw [hen] at hrun
        rw [nodeF_leaf _ _ _ h4]
        obtain ⟨c2, last2, Dx2, p2, e2, q2, r2, d2, t2⟩ := ents_read f r D0 P (nam n.path) _ Z (ns ++ [n]) n.path hl'
          ⟨by simpa using hrun, by simp, List.prefix_refl _, h.inc, fun m hm => by have := above_le (D0 ++ [(P, nam n.path)]) (pre m.path); simpa using this⟩
        refine ⟨n :: c2, last2, Dx2, p2, ?_, q2, ?_, d2, fun b g hb => ?_⟩
        · rw [List.cons_append, ← e2]
        · rw [show ns.length + (n :: c2).length = (ns ++ [n]).length + c2.length by simp; omega]; exact r2
        · rw [List.append_assoc]
          refine rds_entry ns D0 P last (nam n.path) p0 _ _ ⟨ns ++ [n], D0 ++ [(P, nam n.path)], n.path⟩ g hnm hna ?_ (t2 b g (by simpa using hb))
          rw [hpath]
          exact rds_leaf (entsF f) ns _ n r hDl (by omega) hf h4
    · have hE : entsF (f + 1) (n :: r) P = ([], n :: r) := by simp only [entsF, if_neg hp]
      rw [hE]
      refine ⟨[], last, Dx, p0, rfl, h.pref, h.run, fun m hm => ?_, fun b g hb => by simpa using hb⟩
      have hm : n = m := by simpa using hm
      subst hm
      have h1 := h.head n rfl
      rcases Nat.lt_or_ge (above Dx (pre n.path)) (D0.length + 1) with hlt | hge
      · omega
      · obtain ⟨hh, he⟩ := above_get Dx (pre n.path) D0.length (by omega)
        obtain ⟨ext, hext⟩ := h.pref
        have htop : Dx[D0.length] = (P, last) := by subst hext; simp
        rw [htop] at he
        exact absurd he.symm hp
theorem look_zero {n : Nd} {r : List Nd} {Dx Z : Ds} {k : Nat} (hk : k ≠ 0) (h : runF k Dx (n :: r) = some Z) : above Dx (pre n.path) ≠ 0 := by
  obtain ⟨Dy, hs, hr⟩ := runF_cons h
  unfold stepW at hs
  split at hs
  · first | rw [if_neg hk] at hs | skip
    intro e
    unfold placeRest at hs
    simp [e] at hs
  · cases hs
theorem empty_of {s : ByteArray} (h : s.toList.isEmpty = true) : s = ⟨#[]⟩ := by
  rw [ByteArray.toList_eq] at h
  apply ByteArray.ext; apply Array.toList_inj.1
  simpa using h
/-- A TREE's BYTES ARE READ AS THAT TREE. -/
theorem pack_reads (l : List Nd) (Z : Ds) (hne : l ≠ []) (h : runF 0 [] l = some Z) : ∃ g, g.nodes = l ∧ Rds [.word wNar, .bracket] (packBytes l) ⟨[], [], ⟨#[]⟩⟩ g := by
  cases l with
  | nil => exact absurd rfl hne
  | cons n r =>
    obtain ⟨Dy, hs, hr⟩ := runF_cons h
    unfold stepW at hs
    split at hs
    · rename_i hc
      rw [if_pos rfl] at hs
      split at hs
      · rename_i hpe
        injection hs with hs
        subst hs
        have hpq := empty_of hpe
        clear hpe
        have hpe := hpq
        clear hpq
        have hpb : packBytes (n :: r) = enc wNar.data.toList ++ (nodeF (entsF r.length) n r).1 := by unfold packBytes; rw [bytes1]
        rw [hpb]
        by_cases h4 : n.kind = 4
        · obtain ⟨path, kind, data⟩ := n
          simp only at h4 hc hpe hr ⊢
          subst h4; subst hpe
          have hd : data = ⟨#[]⟩ := by
            have hf := hc.2
            unfold fits at hf
            simp at hf
            apply ByteArray.ext; exact hf
          subst hd
          have hen : enterL [] ⟨#[]⟩ 4 = [] ++ [(prefixIn ⟨#[]⟩, ⟨#[]⟩)] := by unfold enterL; rw [if_pos rfl]
          rw [hen] at hr
          obtain ⟨c1, last1, Dx1, p1, e1, q1, r1, d1, t1⟩ := ents_read r.length r [] (prefixIn ⟨#[]⟩) ⟨#[]⟩ _ Z [⟨⟨#[]⟩, 4, ⟨#[]⟩⟩] ⟨#[]⟩ (Nat.le_refl _)
            ⟨hr, by simp, List.prefix_refl _, (fun d hd => by cases hd), fun m hm => by have := above_le ([] ++ [(prefixIn ⟨#[]⟩, (⟨#[]⟩ : ByteArray))]) (pre m.path); simpa using this⟩
          have hl0 : (entsF r.length r (prefixIn ⟨#[]⟩)).2 = [] := by
            cases hh : (entsF r.length r (prefixIn ⟨#[]⟩)).2 with
            | nil => rfl
            | cons m t =>
              rw [hh] at r1 d1
              have a1 := d1 m rfl
              have a2 := look_zero (by simp) r1
              simp only [List.length_nil] at a1
              omega
          rw [hl0, List.append_nil] at e1
          refine ⟨⟨⟨⟨#[]⟩, 4, ⟨#[]⟩⟩ :: c1, [], p1⟩, by rw [e1], ?_⟩
          refine Rds.cons (Rds.word wNar _ (by decide)) (rds_dir (entsF r.length) [] [] ⟨#[]⟩ r _ (by simp) (by simp) (t1 _ _ ?_))
          exact rds_end _ [] _ _
        · have hen : enterL [] n.path n.kind = [] := by unfold enterL; rw [if_neg h4]
          rw [hen] at hr
          have hr0 : r = [] := by
            cases r with
            | nil => rfl
            | cons m t => have := look_zero (by omega) hr; simp [above] at this
          subst hr0
          refine ⟨⟨[n], [], n.path⟩, rfl, Rds.cons (Rds.word wNar _ (by decide)) ?_⟩
          have := rds_leaf (entsF 0) [] [] n [] (by simp) (by simp) hc.2 h4
          rw [hpe] at this ⊢
          exact this
      · cases hs
    · cases hs
theorem read_pack (l : List Nd) (Z : Ds) (hne : l ≠ []) (h : runF 0 [] l = some Z) : readF (packBytes l) = (l, 0, 0) := by
  obtain ⟨g, hg, hr⟩ := pack_reads l Z hne h
  have := hr [] 0
  rw [List.append_nil] at this
  rw [readF_run, this]
  simp [told, hg]
end Go.Proofs.YticcbaapbnfmmaaDoor
namespace Go.Proofs.YticcbaapbnfmmaaDoor
open Go.RowKit

def cntD : List It → Nat
  | [] => 0
  | .inDir :: r => cntD r + 1
  | _ :: r => cntD r
def nok : List It → Prop
  | [] => True
  | .name :: r => 0 < cntD r ∧ nok r
  | _ :: r => nok r
def needN : It → Bool
  | .kind => true
  | .inFile => true
  | .data => true
  | _ => false
/-- What every state keeps; tot: all bytes. -/
structure Inv (st : St) (tot : Nat) : Prop where
  sum : st.pos + st.left.length ≤ tot
  ll : st.list.length ≤ st.pos + 2
  ln : st.gr.nodes.length ≤ 30
  ld : st.gr.dirs.length ≤ st.pos
  lp : st.gr.path.size ≤ st.pos
  np : ∀ n ∈ st.gr.nodes, n.path.size ≤ st.pos
  dp : ∀ d ∈ st.gr.dirs, d.1.size ≤ st.pos
  cd : cntD st.list = st.gr.dirs.length
  nm : nok st.list
  nn : ∀ i ∈ st.list, needN i = true → st.gr.nodes ≠ []
theorem ba_size (s : Bs) : (⟨s.toArray⟩ : ByteArray).size = s.length := by simp [ByteArray.size]
theorem mem_setN {l : List Nd} {x n : Nd} (h : n ∈ setN l x) : n ∈ l ∨ n = x := List.mem_or_eq_of_mem_set h
theorem lastN_mem {l : List Nd} (h : l ≠ []) : lastN l ∈ l := by
  have := List.length_pos_iff.2 h
  have hk : l.length - 1 < l.length := by omega
  unfold lastN
  rw [List.getD_eq_getElem?_getD, List.getElem?_eq_getElem hk]
  exact List.getElem_mem _
theorem setN_len (l : List Nd) (x : Nd) : (setN l x).length = l.length := by simp [setN]
theorem setN_ne {l : List Nd} {x : Nd} (h : l ≠ []) : setN l x ≠ [] := fun e => by
  have := congrArg List.length e
  rw [setN_len] at this
  exact h (List.eq_nil_of_length_eq_zero this)
/-- The next item is met where it may stand. -/
theorem Inv.head {st : St} {tot : Nat} (h : Inv st tot) {i : It} {r : List It} (hl : st.list = i :: r) : (needN i = true → st.gr.nodes ≠ []) ∧ (i = .inDir ∨ i = .name → st.gr.dirs ≠ []) := by
  refine ⟨fun hn => h.nn i (by rw [hl]; exact List.mem_cons_self) hn, fun hi => ?_⟩
  have hc := h.cd
  rw [hl] at hc
  rcases hi with rfl | rfl
  · intro e; rw [e] at hc; simp [cntD] at hc
  · have hm := h.nm
    rw [hl] at hm
    intro e
    rw [e] at hc
    simp only [cntD, List.length_nil] at hc
    have := hm.1
    omega
theorem Inv.step {st st' : St} {tot : Nat} (h : Inv st tot) (hs : stepF st = .go st') : Inv st' tot := by
  have hgo := stepF_go hs
  obtain ⟨left, pos, list, gr⟩ := st
  cases list with
  | nil =>
    simp only [stepF] at hs
    split at hs <;> cases hs
  | cons i r =>
    obtain ⟨hN, hD⟩ := h.head rfl
    simp only at hN hD
    simp only [stepF] at hs
    cases hc : cutF left i.most with
    | wait => rw [hc] at hs; cases hs
    | bad e => rw [hc] at hs; cases hs
    | ok s rest n =>
      rw [hc] at hs
      simp only at hs
      have hcl := cutF_len hc
      cases ht : takeF gr i ⟨s.toArray⟩ with
      | err e => rw [ht] at hs; cases hs
      | more g push =>
        rw [ht] at hs
        simp only at hs
        injection hs with hs
        subst hs
        obtain ⟨hsum, hll, hln, hld, hlp, hnp, hdp, hcd, hnm, hnn⟩ := h
        simp only [List.length_cons] at hsum hll hln hld hlp hnp hdp hcd hnm hnn hgo
        have hnn' : ∀ j ∈ r, needN j = true → gr.nodes ≠ [] := fun j hj => hnn j (List.mem_cons_of_mem _ hj)
        have hnp' : ∀ x ∈ gr.nodes, x.path.size ≤ pos + n := fun x hx => by have := hnp x hx; omega
        have hdp' : ∀ d ∈ gr.dirs, d.1.size ≤ pos + n := fun d hd => by have := hdp d hd; omega
        cases i with
        | word w =>
          rw [take_word] at ht
          split at ht
          · injection ht with h1 h2; subst h1; subst h2
            exact ⟨by simp only; omega, by simp; omega, hln, by simp only; omega, by simp only; omega, hnp', hdp', hcd, hnm, hnn'⟩
          · cases ht
        | bracket =>
          rw [take_bracket] at ht
          split at ht
          · split at ht
            · cases ht
            · split at ht
              · cases ht
              · injection ht with h1 h2; subst h1; subst h2
                refine ⟨by simp only; omega, by simp; omega, by simp; omega, by simp only; omega, by simp only; omega, ?_, hdp', hcd, hnm, ?_⟩
                · intro x hx
                  rcases List.mem_append.1 hx with hx | hx
                  · exact hnp' x hx
                  · rw [List.mem_singleton] at hx; subst hx; simp only; omega
                · intro j _ _; simp
          · cases ht
        | kind =>
          have hne := hN rfl
          have hlast := hnp _ (lastN_mem hne)
          rw [take_kind] at ht
          split at ht
          · injection ht with h1 h2; subst h1; subst h2
            refine ⟨by simp only; omega, by simp; omega, by simp only [setN_len]; omega, by simp only; omega, by simp only; omega, ?_, hdp', hcd, hnm, fun j _ _ => setN_ne hne⟩
            intro x hx
            rcases mem_setN hx with hx | rfl
            · exact hnp' x hx
            · simp only; omega
          · split at ht
            · injection ht with h1 h2; subst h1; subst h2
              refine ⟨by simp only; omega, by simp; omega, by simp only [setN_len]; omega, by simp only; omega, by simp only; omega, ?_, hdp', hcd, hnm, fun j _ _ => setN_ne hne⟩
              intro x hx
              rcases mem_setN hx with hx | rfl
              · exact hnp' x hx
              · simp only; omega
            · split at ht
              · injection ht with h1 h2; subst h1; subst h2
                refine ⟨by simp only; omega, by simp; omega, by simp only [setN_len]; omega, by simp; omega, by simp only; omega, ?_, ?_, ?_, hnm, fun j _ _ => setN_ne hne⟩
                · intro x hx
                  rcases mem_setN hx with hx | rfl
                  · exact hnp' x hx
                  · simp only; omega
                · intro d hd
                  rcases List.mem_append.1 hd with hd | hd
                  · exact hdp' d hd
                  · rw [List.mem_singleton] at hd; subst hd
                    simp only
                    unfold prefixIn
                    split
                    · exact Nat.zero_le _
                    · rw [ByteArray.size_append]
                      have : (⟨#[47]⟩ : ByteArray).size = 1 := rfl
                      omega
                · simp only [List.cons_append, List.nil_append, cntD, List.length_append, List.length_singleton]
                  have : cntD r = gr.dirs.length := hcd
                  omega
              · cases ht
        | inFile =>
          have hne := hN rfl
          have hlast := hnp _ (lastN_mem hne)
          rw [take_inFile] at ht
          split at ht
          · injection ht with h1 h2; subst h1; subst h2
            refine ⟨by simp only; omega, by simp; omega, by simp only [setN_len]; omega, by simp only; omega, by simp only; omega, ?_, hdp', hcd, hnm, fun j _ _ => setN_ne hne⟩
            intro x hx
            rcases mem_setN hx with hx | rfl
            · exact hnp' x hx
            · simp only; omega
          · split at ht
            · injection ht with h1 h2; subst h1; subst h2
              exact ⟨by simp only; omega, by simp; omega, hln, by simp only; omega, by simp only; omega, hnp', hdp', hcd, hnm, fun j _ _ => hne⟩
            · cases ht
        | inDir =>
          have hcd' : cntD r + 1 = gr.dirs.length := hcd
          rw [take_inDir] at ht
          split at ht
          · injection ht with h1 h2; subst h1; subst h2
            refine ⟨by simp only; omega, by simp; omega, hln, by simp only; omega, by simp only; omega, hnp', hdp', hcd', ⟨by simp [cntD], hnm⟩, ?_⟩
            intro j hj hn
            simp at hj
            rcases hj with rfl | rfl | rfl | rfl | rfl | rfl | rfl | hj
            all_goals first | cases hn | exact hnn' j hj hn
          · split at ht
            · injection ht with h1 h2; subst h1; subst h2
              refine ⟨by simp only; omega, by simp; omega, hln, by simp; omega, by simp only; omega, hnp', fun d hd => hdp' d (List.mem_of_mem_take hd), ?_, hnm, hnn'⟩
              simp only [List.nil_append, List.length_take]; omega
            · cases ht
        | name =>
          rw [take_name] at ht
          have hne := hD (.inr rfl)
          split at ht
          · cases ht
          · split at ht
            · cases ht
            · injection ht with h1 h2; subst h1; subst h2
              have hld' : (lastD gr.dirs).1.size ≤ pos := by
                have hp := List.length_pos_iff.2 hne
                have hk : gr.dirs.length - 1 < gr.dirs.length := by omega
                have : lastD gr.dirs ∈ gr.dirs := by
                  unfold lastD
                  rw [List.getD_eq_getElem?_getD, List.getElem?_eq_getElem hk]
                  exact List.getElem_mem _
                exact hdp _ this
              refine ⟨by simp only; omega, by simp; omega, hln, by simp [setD]; omega, ?_, hnp', ?_, ?_, hnm.2, hnn'⟩
              · simp only [ByteArray.size_append, ba_size]; omega
              · intro d hd
                rcases List.mem_or_eq_of_mem_set hd with hd | rfl
                · exact hdp' d hd
                · simp only; omega
              · simp only [List.nil_append, setD, List.length_set]; exact hcd
        | data =>
          have hne := hN rfl
          have hlast := hnp _ (lastN_mem hne)
          rw [take_data] at ht
          split at ht
          · injection ht with h1 h2; subst h1; subst h2
            refine ⟨by simp only; omega, by simp; omega, by simp only [setN_len]; omega, by simp only; omega, by simp only; omega, ?_, hdp', hcd, hnm, fun j _ _ => setN_ne hne⟩
            intro x hx
            rcases mem_setN hx with hx | rfl
            · exact hnp' x hx
            · simp only; omega
          · cases ht
theorem Inv.add {st : St} {tot : Nat} (h : Inv st tot) (s : Bs) : Inv (st.add s) (tot + s.length) := by
  obtain ⟨a, b, c, d, e, f, g, i, j, k⟩ := h
  exact ⟨by simp [St.add]; omega, b, c, d, e, f, g, i, j, k⟩
theorem Inv.init : Inv ⟨[], 0, [.word wNar, .bracket], ⟨[], [], ⟨#[]⟩⟩⟩ 0 :=
  ⟨by simp, by simp, by simp, by simp, Nat.le_refl _, (fun n hn => by cases hn), (fun n hn => by cases hn), rfl, trivial, fun i hi hn => by
    simp at hi
    rcases hi with rfl | rfl <;> cases hn⟩
end Go.Proofs.YticcbaapbnfmmaaDoor
