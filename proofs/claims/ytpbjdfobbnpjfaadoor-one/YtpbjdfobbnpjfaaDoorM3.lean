/-
  PLAIN MATHEMATICS, 3: the directories that are open.
-/
import Derived.Test.YtpbjdfobbnpjfaaDoorM2
namespace Go.Proofs.YtpbjdfobbnpjfaaDoor
open Go.RowKit

def flat2 : List (ByteArray × ByteArray) → List Value
  | [] => []
  | d :: r => .string d.1 :: .string d.2 :: flat2 r
theorem flat2_length : ∀ ds, (flat2 ds).length = ds.length * 2
  | [] => rfl
  | d :: r => by simp only [flat2, List.length_cons, flat2_length r]; omega
theorem flat2_append : ∀ a b, flat2 (a ++ b) = flat2 a ++ flat2 b
  | [], b => rfl
  | d :: r, b => by simp [flat2, flat2_append r b]
theorem flat2_0 : ∀ (ds : List (ByteArray × ByteArray)) (k : Nat) (h : k < ds.length), (flat2 ds)[k * 2]? = some (.string ds[k].1)
  | [], k, h => by simp at h
  | d :: r, 0, h => by simp [flat2]
  | d :: r, k + 1, h => by
    have := flat2_0 r k (by simpa using h)
    rw [show (k + 1) * 2 = k * 2 + 1 + 1 by omega]
    simpa [flat2] using this
theorem flat2_1 : ∀ (ds : List (ByteArray × ByteArray)) (k : Nat) (h : k < ds.length), (flat2 ds)[k * 2 + 1]? = some (.string ds[k].2)
  | [], k, h => by simp at h
  | d :: r, 0, h => by simp [flat2]
  | d :: r, k + 1, h => by
    have := flat2_1 r k (by simpa using h)
    rw [show (k + 1) * 2 + 1 = k * 2 + 1 + 1 + 1 by omega]
    simpa [flat2] using this
theorem flat2_take : ∀ (ds : List (ByteArray × ByteArray)) (k : Nat), (flat2 ds).take (k * 2) = flat2 (ds.take k)
  | [], k => by simp [flat2]
  | d :: r, 0 => by simp [flat2]
  | d :: r, k + 1 => by
    rw [show (k + 1) * 2 = k * 2 + 1 + 1 by omega]
    simp [flat2, flat2_take r k]
theorem flat2_set : ∀ (ds : List (ByteArray × ByteArray)) (k : Nat) (h : k < ds.length) (x : ByteArray), (flat2 ds).set (k * 2 + 1) (.string x) = flat2 (ds.set k (ds[k].1, x))
  | [], k, h, x => by simp at h
  | d :: r, 0, h, x => by simp [flat2]
  | d :: r, k + 1, h, x => by
    have := flat2_set r k (by simpa using h) x
    rw [show (k + 1) * 2 + 1 = k * 2 + 1 + 1 + 1 by omega]
    simpa [flat2] using this

/-- How many directories stand above a node of that prefix; 0: none that is open has it. -/
def above : List (ByteArray × ByteArray) → ByteArray → Nat
  | [], _ => 0
  | d :: r, p => if d.1 = p then 1 else if above r p = 0 then 0 else above r p + 1
theorem above_none : ∀ (ds : List (ByteArray × ByteArray)) (p : ByteArray), (∀ k (h : k < ds.length), ds[k].1 ≠ p) → above ds p = 0
  | [], p, _ => rfl
  | d :: r, p, h => by
    have h0 : ¬ d.1 = p := h 0 (by simp)
    have hr := above_none r p (fun k hk => h (k + 1) (by simpa using hk))
    simp [above, h0, hr]
theorem above_at : ∀ (ds : List (ByteArray × ByteArray)) (p : ByteArray) (k : Nat) (h : k < ds.length), ds[k].1 = p → (∀ j (hj : j < ds.length), j < k → ds[j].1 ≠ p) → above ds p = k + 1
  | [], p, k, h, _, _ => by simp at h
  | d :: r, p, 0, h, hk, _ => by
    have h0 : d.1 = p := hk
    simp [above, h0]
  | d :: r, p, k + 1, h, hk, hj => by
    have h0 : ¬ d.1 = p := hj 0 (by simp) (by omega)
    have hr := above_at r p k (by simpa using h) (by simpa using hk) (fun j hj1 hj2 => hj (j + 1) (by simpa using hj1) (by omega))
    simp [above, h0, hr]
theorem above_le : ∀ (ds : List (ByteArray × ByteArray)) (p : ByteArray), above ds p ≤ ds.length
  | [], _ => Nat.le_refl _
  | d :: r, p => by
    have := above_le r p
    simp only [above, List.length_cons]
    split
    · omega
    · split <;> omega
end Go.Proofs.YtpbjdfobbnpjfaaDoor
