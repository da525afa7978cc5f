/-
  PLAIN MATHEMATICS, 6: a letter, by its bytes, as the document's answer goes.
-/
import Derived.Test.YticfcjmlphhpgaaDoorM2
import Derived.Lib.MapLaws
namespace Go.Proofs.YticfcjmlphhpgaaDoor
open Go.RowKit

abbrev cnt (b : Nat) : Prop := 128 ≤ b ∧ b ≤ 191
def refW (b0 b1 b2 b3 : Nat) : Option Nat :=
  if b0 < 32 ∨ b0 = 47 ∨ b0 = 127 then none else if b0 < 128 then some 1
  else if 194 ≤ b0 ∧ b0 < 224 then (if cnt b1 then some 2 else none)
  else if 224 ≤ b0 ∧ b0 < 240 then (if (cnt b1 ∧ cnt b2) ∧ 2048 ≤ 64 * (64 * (b0 % 16) + b1 % 64) + b2 % 64 ∧ ¬ (55296 ≤ 64 * (64 * (b0 % 16) + b1 % 64) + b2 % 64 ∧ 64 * (64 * (b0 % 16) + b1 % 64) + b2 % 64 < 57344) then some 3 else none)
  else if 240 ≤ b0 ∧ b0 < 245 then (if (cnt b1 ∧ cnt b2 ∧ cnt b3) ∧ 65536 ≤ 64 * (64 * (64 * (b0 % 8) + b1 % 64) + b2 % 64) + b3 % 64 ∧ 64 * (64 * (64 * (b0 % 8) + b1 % 64) + b2 % 64) + b3 % 64 ≤ 1114111 then some 4 else none)
  else none

theorem badR_bad : badR 65533 1 = true := rfl
theorem badR_ok (r w : Nat) (h : ¬ (r = 65533 ∧ w = 1)) (h2 : 32 ≤ r) (h3 : r ≠ 127) (h4 : r ≠ 47) : badR r w = false := by
  unfold badR
  simp
  omega
theorem badR_asc (b : Nat) (h : b < 128) : badR b 1 = decide (b < 32 ∨ b = 47 ∨ b = 127) := by
  unfold badR
  rw [Bool.eq_iff_iff]
  simp
  omega

set_option maxHeartbeats 4000000 in
theorem refW_eq (n b0 b1 b2 b3 : Nat) (hn : 1 ≤ n) (h0 : b0 < 256) (h1 : b1 < 256) (h2 : b2 < 256) (h3 : b3 < 256) (z1 : n ≤ 1 → b1 = 0) (z2 : n ≤ 2 → b2 = 0) (z3 : n ≤ 3 → b3 = 0) :
    (badR (Lib.decodeN n b0 b1 b2 b3).1 (Lib.decodeN n b0 b1 b2 b3).2 = true ∧ refW b0 b1 b2 b3 = none) ∨ (badR (Lib.decodeN n b0 b1 b2 b3).1 (Lib.decodeN n b0 b1 b2 b3).2 = false ∧ refW b0 b1 b2 b3 = some (Lib.decodeN n b0 b1 b2 b3).2) := by
  by_cases a : b0 < 128
  · have e : Lib.decodeN n b0 b1 b2 b3 = (b0, 1) := by unfold Lib.decodeN; rw [if_pos a]
    rw [e]
    simp only [badR_asc b0 a]
    by_cases hb : b0 < 32 ∨ b0 = 47 ∨ b0 = 127
    · left; exact ⟨decide_eq_true hb, by unfold refW; rw [if_pos hb]⟩
    · right; exact ⟨decide_eq_false hb, by unfold refW; rw [if_neg hb, if_pos a]⟩
  · have nb : ¬ (b0 < 32 ∨ b0 = 47 ∨ b0 = 127) := by omega
    by_cases c2 : 194 ≤ b0 ∧ b0 < 224
    · have er : refW b0 b1 b2 b3 = if cnt b1 then some 2 else none := by unfold refW; rw [if_neg nb, if_neg a, if_pos c2]
      by_cases k1 : cnt b1
      · have e : Lib.decodeN n b0 b1 b2 b3 = (b0 % 32 * 64 + b1 % 64, 2) := by
          unfold cnt at k1; unfold Lib.decodeN; rw [if_neg a, if_pos (by omega), if_pos (by omega)]
        right; rw [e, er, if_pos k1]; exact ⟨badR_ok _ _ (by omega) (by dsimp only; omega) (by dsimp only; omega) (by dsimp only; omega), rfl⟩
      · have e : Lib.decodeN n b0 b1 b2 b3 = (65533, 1) := by
          unfold cnt at k1; unfold Lib.decodeN; rw [if_neg a, if_neg (by omega), if_neg (by omega), if_neg (by omega)]
        left; rw [e, er, if_neg k1]; exact ⟨badR_bad, rfl⟩
    · by_cases c3 : 224 ≤ b0 ∧ b0 < 240
      · have er : refW b0 b1 b2 b3 = if (cnt b1 ∧ cnt b2) ∧ 2048 ≤ 64 * (64 * (b0 % 16) + b1 % 64) + b2 % 64 ∧ ¬ (55296 ≤ 64 * (64 * (b0 % 16) + b1 % 64) + b2 % 64 ∧ 64 * (64 * (b0 % 16) + b1 % 64) + b2 % 64 < 57344) then some 3 else none := by unfold refW; rw [if_neg nb, if_neg a, if_neg c2, if_pos c3]
        by_cases kk : cnt b1 ∧ cnt b2
        · by_cases kv : 2048 ≤ 64 * (64 * (b0 % 16) + b1 % 64) + b2 % 64 ∧ ¬ (55296 ≤ 64 * (64 * (b0 % 16) + b1 % 64) + b2 % 64 ∧ 64 * (64 * (b0 % 16) + b1 % 64) + b2 % 64 < 57344)
          · have e : Lib.decodeN n b0 b1 b2 b3 = (b0 % 16 * 4096 + b1 % 64 * 64 + b2 % 64, 3) := by
              unfold cnt at kk; unfold Lib.decodeN; rw [if_neg a, if_neg (by omega), if_pos (by omega), if_pos (by omega)]
            right; rw [e, er, if_pos ⟨kk, kv⟩]; exact ⟨badR_ok _ _ (by omega) (by dsimp only; omega) (by dsimp only; omega) (by dsimp only; omega), rfl⟩
          · have e : Lib.decodeN n b0 b1 b2 b3 = (65533, 1) := by
              unfold cnt at kk; unfold Lib.decodeN; rw [if_neg a, if_neg (by omega), if_pos (by omega), if_neg (by omega)]
            left; rw [e, er, if_neg (fun h => kv h.2)]; exact ⟨badR_bad, rfl⟩
        · have e : Lib.decodeN n b0 b1 b2 b3 = (65533, 1) := by
            unfold cnt at kk; unfold Lib.decodeN; rw [if_neg a, if_neg (by omega), if_neg (by omega), if_neg (by omega)]
          left; rw [e, er, if_neg (fun h => kk h.1)]; exact ⟨badR_bad, rfl⟩
      · by_cases c4 : 240 ≤ b0 ∧ b0 < 245
        · have er : refW b0 b1 b2 b3 = if (cnt b1 ∧ cnt b2 ∧ cnt b3) ∧ 65536 ≤ 64 * (64 * (64 * (b0 % 8) + b1 % 64) + b2 % 64) + b3 % 64 ∧ 64 * (64 * (64 * (b0 % 8) + b1 % 64) + b2 % 64) + b3 % 64 ≤ 1114111 then some 4 else none := by unfold refW; rw [if_neg nb, if_neg a, if_neg c2, if_neg c3, if_pos c4]
          by_cases kk : cnt b1 ∧ cnt b2 ∧ cnt b3
          · by_cases kv : 65536 ≤ 64 * (64 * (64 * (b0 % 8) + b1 % 64) + b2 % 64) + b3 % 64 ∧ 64 * (64 * (64 * (b0 % 8) + b1 % 64) + b2 % 64) + b3 % 64 ≤ 1114111
            · have e : Lib.decodeN n b0 b1 b2 b3 = (b0 % 8 * 262144 + b1 % 64 * 4096 + b2 % 64 * 64 + b3 % 64, 4) := by
                unfold cnt at kk; unfold Lib.decodeN; rw [if_neg a, if_neg (by omega), if_neg (by omega), if_pos (by omega), if_pos (by omega)]
              right; rw [e, er, if_pos ⟨kk, kv⟩]; exact ⟨badR_ok _ _ (by omega) (by dsimp only; omega) (by dsimp only; omega) (by dsimp only; omega), rfl⟩
            · have e : Lib.decodeN n b0 b1 b2 b3 = (65533, 1) := by
                unfold cnt at kk; unfold Lib.decodeN; rw [if_neg a, if_neg (by omega), if_neg (by omega), if_pos (by omega), if_neg (by omega)]
              left; rw [e, er, if_neg (fun h => kv h.2)]; exact ⟨badR_bad, rfl⟩
          · have e : Lib.decodeN n b0 b1 b2 b3 = (65533, 1) := by
              unfold cnt at kk; unfold Lib.decodeN; rw [if_neg a, if_neg (by omega), if_neg (by omega), if_neg (by omega)]
            left; rw [e, er, if_neg (fun h => kk h.1)]; exact ⟨badR_bad, rfl⟩
        · have er : refW b0 b1 b2 b3 = none := by unfold refW; rw [if_neg nb, if_neg a, if_neg c2, if_neg c3, if_neg c4]
          left; rw [er, Lib.decodeN_bad n b0 b1 b2 b3 (by omega)]; exact ⟨badR_bad, rfl⟩

/-- The byte at a place; 0 beyond the end. -/
def bt (l : List UInt8) (p : Nat) : Nat := (l.getD p 0).toNat
theorem bt_lt (l : List UInt8) (p : Nat) : bt l p < 256 := (l.getD p 0).toNat_lt
theorem bt_out (l : List UInt8) (p : Nat) (h : l.length ≤ p) : bt l p = 0 := by
  unfold bt; rw [List.getD_eq_getElem?_getD, List.getElem?_eq_none h]; rfl
theorem letters_ref (l : List UInt8) (i : Nat) (h : i < l.length) : letters (l.drop i) = match refW (bt l i) (bt l (i + 1)) (bt l (i + 2)) (bt l (i + 3)) with
    | none => none
    | some w => (letters (l.drop (i + w))).map (· + 1) := by
  have hne : l.drop i ≠ [] := fun e => by have := congrArg List.length e; simp at this; omega
  rw [letters_step _ hne, Lib.decodeL_N, List.length_drop, Lib.getD_dropU, Lib.getD_dropU, Lib.getD_dropU, Lib.getD_dropU]
  rw [List.drop_drop]
  rcases refW_eq (l.length - i) (bt l (i + 0)) (bt l (i + 1)) (bt l (i + 2)) (bt l (i + 3)) (by omega) (bt_lt _ _) (bt_lt _ _) (bt_lt _ _) (bt_lt _ _) (fun h => bt_out _ _ (by omega)) (fun h => bt_out _ _ (by omega)) (fun h => bt_out _ _ (by omega)) with ⟨hb, hr⟩ | ⟨hb, hr⟩
  · rw [Nat.add_zero] at hr hb
    rw [hr]
    unfold bt at hb
    rw [Nat.add_zero, if_pos hb]
  · rw [Nat.add_zero] at hr hb
    rw [hr]
    unfold bt at hb ⊢
    rw [Nat.add_zero, if_neg (by rw [hb]; decide)]
end Go.Proofs.YticfcjmlphhpgaaDoor
