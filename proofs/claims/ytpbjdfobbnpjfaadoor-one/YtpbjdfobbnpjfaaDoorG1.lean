/-
  MATHEMATICS of narkeep.grown and Broken: lists that the program's own look runs through; a changed node is the first that is wrong.
-/
import Derived.Test.YtpbjdfobbnpjfaaDoorW5
import Derived.Test.YtpbjdfobbnpjfaaDoorM7
namespace Go.Proofs.YtpbjdfobbnpjfaaDoor
open Go.RowKit

abbrev Ds := List (ByteArray × ByteArray)
theorem pre_data (s : ByteArray) : (pre s).data.toList = preL s.data.toList := by
  unfold pre preL; rw [Lib.extract_data]; simp [cut]
theorem nam_data (s : ByteArray) : (nam s).data.toList = namL s.data.toList := by
  unfold nam namL; rw [Lib.extract_data]
  unfold cut
  rw [List.take_of_length_le (by simp)]
theorem data_append (a b : ByteArray) : (a ++ b).data.toList = a.data.toList ++ b.data.toList := by simp
theorem size_of_data {s : ByteArray} {l : List UInt8} (h : s.data.toList = l) : s.size = l.length := by rw [← h]; simp
theorem prefixIn_data (s : ByteArray) : (prefixIn s).data.toList = pin s.data.toList := by
  unfold prefixIn pin
  split
  · rfl
  · rw [data_append]

/-- One node more: the directories that are open behind it; none: it is wrong. -/
def stepW (i : Nat) (ds : Ds) (n : Nd) : Option Ds :=
  if i < 30 ∧ fits n.kind n.data.data.toList = true then
    (if i = 0 then (if n.path.toList.isEmpty = true then some (enterL ds n.path n.kind) else none) else placeRest ds n.path n.kind)
  else none
def runF : Nat → Ds → List Nd → Option Ds
  | _, ds, [] => some ds
  | i, ds, n :: r => match stepW i ds n with
    | some ds' => runF (i + 1) ds' r
    | none => none
theorem fwGo_step' (i : Nat) (ds : Ds) (n : Nd) (r : List Nd) : fwGo i ds (n :: r) = match stepW i ds n with | some ds' => fwGo (i + 1) ds' r | none => some i := by
  simp only [fwGo, stepW]
  by_cases h : i < 30 ∧ fits n.kind n.data.data.toList = true
  · rw [if_pos h, if_pos h]
    by_cases h0 : i = 0
    · rw [if_pos h0, if_pos h0]
      by_cases hp : n.path.toList.isEmpty = true
      · rw [if_pos hp, if_pos hp, h0]
      · rw [if_neg hp, if_neg hp, h0]
    · rw [if_neg h0, if_neg h0]
      cases placeRest ds n.path n.kind <;> rfl
  · rw [if_neg h, if_neg h]
theorem fwGo_run : ∀ (A : List Nd) (i : Nat) (ds ds' : Ds) (r : List Nd), runF i ds A = some ds' → fwGo i ds (A ++ r) = fwGo (i + A.length) ds' r
  | [], i, ds, ds', r, h => by simp only [runF, Option.some.injEq] at h; subst h; simp
  | n :: A, i, ds, ds', r, h => by
    simp only [runF] at h
    rw [List.cons_append, fwGo_step']
    cases hs : stepW i ds n with
    | none => rw [hs] at h; cases h
    | some d =>
      rw [hs] at h
      simp only at h ⊢
      rw [fwGo_run A (i + 1) d ds' r h, List.length_cons]
      congr 1; omega
theorem run_snoc : ∀ (A : List Nd) (i : Nat) (ds : Ds) (x : Nd), runF i ds (A ++ [x]) = (runF i ds A).bind fun d => stepW (i + A.length) d x
  | [], i, ds, x => by simp only [List.nil_append, runF, List.length_nil, Nat.add_zero, Option.bind_some]; cases stepW i ds x <;> rfl
  | n :: A, i, ds, x => by
    simp only [List.cons_append, runF]
    cases hs : stepW i ds n with
    | none => rfl
    | some d => simp only; rw [run_snoc A (i + 1) d x, List.length_cons]; congr 1; funext d'; congr 1; omega
theorem firstW_run (l : List Nd) (ds : Ds) (hl : l ≠ []) (h : runF 0 [] l = some ds) : firstW l = none := by
  unfold firstW
  rw [if_neg hl]
  have := fwGo_run l 0 [] ds [] h
  rw [List.append_nil] at this
  rw [this]; rfl
/-- A node that is wrong behind those that are right is the first. -/
theorem firstW_at (A B : List Nd) (x : Nd) (ds : Ds) (h : runF 0 [] A = some ds) (hx : stepW A.length ds x = none) : firstW (A ++ x :: B) = some A.length := by
  unfold firstW
  rw [if_neg (by simp), fwGo_run A 0 [] ds _ h, fwGo_step', Nat.zero_add, hx]

/-- The names that grow. -/
def nameG (n : Nat) (al : Bool) : Bs := if al then [UInt8.ofNat (97 + n), 206, 177, 32, 120] else [UInt8.ofNat (97 + n)]
def IsG (l : Bs) : Prop := ∃ n al, n < 26 ∧ l = nameG n al
set_option maxRecDepth 100000 in
theorem nameG_facts : ∀ n : Fin 26, ∀ al : Bool, isNameB (nameG n.val al) = true ∧ (47 ∈ nameG n.val al) = False ∧ isNameB (nameG n.val al ++ [10]) = false ∧ nameG n.val al ≠ [] := by
  decide +kernel
theorem IsG.name {l : Bs} (h : IsG l) : isNameB l = true ∧ ¬ (47 : UInt8) ∈ l ∧ isNameB (l ++ [10]) = false ∧ l ≠ [] := by
  obtain ⟨n, al, hn, rfl⟩ := h
  obtain ⟨h1, h2, h3, h4⟩ := nameG_facts ⟨n, hn⟩ al
  exact ⟨h1, fun h => by rw [h2] at h; exact h, h3, h4⟩
end Go.Proofs.YtpbjdfobbnpjfaaDoor
