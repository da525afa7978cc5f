/-
  PLAIN MATHEMATICS, 2: names, letter by letter. Imports nothing of the dump.
-/
import Derived.Test.YtpbjdfobbnpjfaaDoorM1
import Derived.Lib.ValidLaws
namespace Go.Proofs.YtpbjdfobbnpjfaaDoor
open Go.RowKit

def badR (r w : Nat) : Bool := (decide (r = 65533) && decide (w = 1)) || decide (r < 32) || decide (r = 127) || decide (r = 47)
def lettersGo : Nat → List UInt8 → Option Nat
  | 0, _ => some 0
  | n + 1, l => if l = [] then some 0 else if badR (Lib.decodeL l).1 (Lib.decodeL l).2 = true then none else (lettersGo n (l.drop (Lib.decodeL l).2)).map (· + 1)
def letters (l : List UInt8) : Option Nat := lettersGo l.length l
theorem lettersGo_nil : ∀ n, lettersGo n [] = some 0
  | 0 => rfl
  | n + 1 => by simp [lettersGo]
theorem lettersGo_fuel : ∀ (n m : Nat) (l : List UInt8), l.length ≤ n → l.length ≤ m → lettersGo n l = lettersGo m l
  | 0, m, l, h, _ => by
    have : l = [] := List.eq_nil_of_length_eq_zero (by omega)
    subst this; rw [lettersGo_nil, lettersGo_nil]
  | n + 1, 0, l, _, h => by
    have : l = [] := List.eq_nil_of_length_eq_zero (by omega)
    subst this; rw [lettersGo_nil, lettersGo_nil]
  | n + 1, m + 1, l, h1, h2 => by
    by_cases hl : l = []
    · subst hl; rw [lettersGo_nil, lettersGo_nil]
    · have hw := Lib.decodeL_width l
      have hlen : 0 < l.length := List.length_pos_iff.2 hl
      have hd : (l.drop (Lib.decodeL l).2).length ≤ l.length - 1 := by rw [List.length_drop]; omega
      simp only [lettersGo, if_neg hl]
      rw [lettersGo_fuel n m _ (by omega) (by omega)]
theorem letters_nil : letters [] = some 0 := rfl
theorem letters_step (l : List UInt8) (hl : l ≠ []) : letters l = if badR (Lib.decodeL l).1 (Lib.decodeL l).2 = true then none else (letters (l.drop (Lib.decodeL l).2)).map (· + 1) := by
  have hw := Lib.decodeL_width l
  have hlen : 0 < l.length := List.length_pos_iff.2 hl
  have hd : (l.drop (Lib.decodeL l).2).length ≤ l.length - 1 := by rw [List.length_drop]; omega
  unfold letters
  obtain ⟨n, hn⟩ : ∃ n, l.length = n + 1 := ⟨l.length - 1, by omega⟩
  conv => lhs; rw [hn]
  simp only [lettersGo, if_neg hl]
  rw [lettersGo_fuel n (l.drop (Lib.decodeL l).2).length _ (by omega) (by omega)]
/-- What is no valid UTF-8 has no letters. -/
theorem letters_invalid : ∀ (n : Nat) (l : List UInt8), l.length ≤ n → Lib.validD l = false → letters l = none
  | 0, l, h, hv => by
    have : l = [] := List.eq_nil_of_length_eq_zero (by omega)
    subst this; simp [Lib.validD_nil] at hv
  | n + 1, l, h, hv => by
    by_cases hl : l = []
    · subst hl; simp [Lib.validD_nil] at hv
    · have hw := Lib.decodeL_width l
      have hlen : 0 < l.length := List.length_pos_iff.2 hl
      rw [Lib.validD_step l hl] at hv
      rw [letters_step l hl]
      by_cases hb : badR (Lib.decodeL l).1 (Lib.decodeL l).2 = true
      · rw [if_pos hb]
      · rw [if_neg hb]
        by_cases hc : (Lib.decodeL l).1 = 65533 ∧ (Lib.decodeL l).2 = 1
        · exact absurd (by simp [badR, hc.1, hc.2]) hb
        · rw [if_neg hc] at hv
          rw [letters_invalid n _ (by rw [List.length_drop]; omega) hv]
          rfl
def isNameB (l : List UInt8) : Bool := !(l == [46]) && !(l == [46, 46]) && match letters l with | some n => decide (1 ≤ n) && decide (n ≤ 12) | none => false
theorem isNameB_none (l : List UInt8) (h : letters l = none) : isNameB l = false := by simp [isNameB, h]
theorem isNameB_some (l : List UInt8) (n : Nat) (h : letters l = some n) (h1 : ¬ l = [46]) (h2 : ¬ l = [46, 46]) : isNameB l = (decide ((1 : Int) ≤ n) && decide ((n : Int) ≤ 12)) := by
  have a1 : (l == [46]) = false := beq_eq_false_iff_ne.2 h1
  have a2 : (l == [46, 46]) = false := beq_eq_false_iff_ne.2 h2
  have e1 : decide (1 ≤ n) = decide ((1 : Int) ≤ n) := decide_eq_decide.2 (by omega)
  have e2 : decide (n ≤ 12) = decide ((n : Int) ≤ 12) := decide_eq_decide.2 (by omega)
  unfold isNameB
  rw [a1, a2, h, ← e1, ← e2]
  rfl
end Go.Proofs.YtpbjdfobbnpjfaaDoor
