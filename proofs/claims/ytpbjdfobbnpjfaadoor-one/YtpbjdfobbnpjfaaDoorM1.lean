/-
  PLAIN MATHEMATICS, 1: words, cuts, lengths of bytes. Imports nothing of the dump.
-/
import Derived.WalkKit
namespace Go.Proofs.YtpbjdfobbnpjfaaDoor
open Go.RowKit

def wordOf (k : Int) : ByteArray := if k = 3 then ⟨#[108, 105, 110, 107]⟩ else if k = 4 then ⟨#[100, 105, 114]⟩ else ⟨#[102, 105, 108, 101]⟩
def prefixIn (s : ByteArray) : ByteArray := if s.data.toList = [] then ⟨#[]⟩ else s ++ ⟨#[47]⟩

/-- How many bytes stand up to the last '/', that one too. -/
def cutL : List UInt8 → Nat
  | [] => 0
  | c :: t => if 0 < cutL t then cutL t + 1 else if c = 47 then 1 else 0
theorem cutL_le : ∀ l, cutL l ≤ l.length
  | [] => Nat.le_refl _
  | c :: t => by
    have := cutL_le t
    simp only [cutL, List.length_cons]
    split
    · omega
    · split <;> omega
theorem cutL_zero : ∀ l, (∀ i, i < l.length → l[i]? ≠ some 47) → cutL l = 0
  | [], _ => rfl
  | c :: t, h => by
    have h0 := h 0 (by simp)
    have ht := cutL_zero t (fun i hi => by simpa using h (i + 1) (by simpa using hi))
    have hc : ¬ c = 47 := by simpa using h0
    simp [cutL, ht, hc]
theorem cutL_at : ∀ l j, j < l.length → l[j]? = some 47 → (∀ i, j < i → i < l.length → l[i]? ≠ some 47) → cutL l = j + 1
  | [], j, h, _, _ => by simp at h
  | c :: t, 0, _, hj, h => by
    have ht := cutL_zero t (fun i hi => by simpa using h (i + 1) (by omega) (by simpa using hi))
    have hc : c = 47 := by simpa using hj
    simp [cutL, ht, hc]
  | c :: t, j + 1, hl, hj, h => by
    have ht := cutL_at t j (by simpa using hl) (by simpa using hj) (fun i hi1 hi2 => by simpa using h (i + 1) (by omega) (by simpa using hi2))
    simp [cutL, ht]
def cut (s : ByteArray) : Nat := cutL s.data.toList
theorem cut_le (s : ByteArray) : cut s ≤ s.size := by have := cutL_le s.data.toList; simpa [cut] using this
def pre (s : ByteArray) : ByteArray := s.extract 0 (cut s)
def nam (s : ByteArray) : ByteArray := s.extract (cut s) s.size
theorem get?_of (s : ByteArray) (i : Nat) (h : i < s.size) : s.data.toList[i]? = some s[i] := by
  rw [List.getElem?_eq_getElem (by simpa using h)]; rfl
theorem cut_of (s : ByteArray) (j : Nat) (h : j < s.size) (hj : s[j].toNat = 47) (hr : ∀ i (hi : i < s.size), j < i → s[i].toNat ≠ 47) : cut s = j + 1 := by
  have e47 : ∀ c : UInt8, c.toNat = 47 → c = 47 := fun c hc => UInt8.toNat_inj.1 hc
  refine cutL_at _ j (by simpa using h) ?_ ?_
  · rw [get?_of s j h, e47 _ hj]
  · intro i h1 h2 h3
    have hi : i < s.size := by simpa using h2
    rw [get?_of s i hi] at h3
    exact hr i hi h1 (by rw [Option.some.inj h3]; rfl)
theorem cut_none (s : ByteArray) (hr : ∀ i (hi : i < s.size), s[i].toNat ≠ 47) : cut s = 0 := by
  refine cutL_zero _ ?_
  intro i h2 h3
  have hi : i < s.size := by simpa using h2
  rw [get?_of s i hi] at h3
  exact hr i hi (by rw [Option.some.inj h3]; rfl)

/-- May bytes stand with a node of a kind? -/
def fits (k : Int) (d : List UInt8) : Bool :=
  if k = 3 then decide (d ≠ []) && decide (d.length ≤ 100) && decide (¬ (0 : UInt8) ∈ d) else if k = 1 ∨ k = 2 then decide (d.length ≤ 100) else if k = 4 then decide (d = []) else false

/-! a number's eight bytes; a string in bytes -/
def byteAt (H : Int) (j : Nat) : UInt8 := UInt8.ofNat (H / 2 ^ (8 * j) % 256).toNat
def le (H : Int) (k : Nat) : List UInt8 := (List.range k).map (byteAt H)
theorem byteAt_val (H : Int) (j : Nat) : ((byteAt H j).toNat : Int) = H / 2 ^ (8 * j) % 256 := by
  unfold byteAt
  generalize H / 2 ^ (8 * j) = x
  have h0 := Int.emod_nonneg x (b := 256) (by decide)
  have h1 := Int.emod_lt_of_pos x (b := 256) (by decide)
  rw [UInt8.toNat_ofNat']
  omega
theorem le_succ (H : Int) (k : Nat) : le H (k + 1) = le H k ++ [byteAt H k] := by simp [le, List.range_succ]
theorem le_length (H : Int) (k : Nat) : (le H k).length = k := by simp [le]
theorem shift_succ (H : Int) (k : Nat) : H / 2 ^ (8 * k) / 256 = H / 2 ^ (8 * (k + 1)) := by
  rw [Int.ediv_ediv_of_nonneg (Int.pow_nonneg (by decide)), show 8 * (k + 1) = 8 * k + 8 by omega, Int.pow_add]
  rfl
theorem shift_range (H : Int) (k : Nat) (h0 : 0 ≤ H) (h1 : H < 18446744073709551616) : 0 ≤ H / 2 ^ (8 * k) ∧ H / 2 ^ (8 * k) < 18446744073709551616 := by
  have hp : (0 : Int) < 2 ^ (8 * k) := Int.pow_pos (by decide)
  refine ⟨Int.ediv_nonneg h0 (Int.le_of_lt hp), Int.lt_of_le_of_lt (Int.ediv_le_self _ h0) h1⟩
/-- Bytes as cells. -/
def cellsOf (l : List UInt8) : List Value := l.map fun c => Value.int .u8 (c.toNat : Int)
theorem cellsOf_append (a b : List UInt8) : cellsOf (a ++ b) = cellsOf a ++ cellsOf b := by simp [cellsOf]
theorem cellsOf_length (a : List UInt8) : (cellsOf a).length = a.length := by simp [cellsOf]
def padLen (n : Nat) : Nat := (8 - n % 8) % 8
def enc (l : List UInt8) : List UInt8 := le (l.length : Int) 8 ++ l ++ List.replicate (padLen l.length) 0
def encs : List (List UInt8) → List UInt8
  | [] => []
  | l :: r => enc l ++ encs r
theorem encs_append (a b : List (List UInt8)) : encs (a ++ b) = encs a ++ encs b := by
  induction a with
  | nil => rfl
  | cons x r ih => simp [encs, ih]
theorem enc_length (l : List UInt8) : (enc l).length ≤ l.length + 16 := by
  simp only [enc, List.length_append, le_length, List.length_replicate, padLen]; omega
end Go.Proofs.YtpbjdfobbnpjfaaDoor
