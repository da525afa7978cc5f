/-
  PLAIN MATHEMATICS of the sum: FNV over bytes, a number's eight bytes. Imports nothing of the dump.
-/
import Derived.WalkKit
namespace Go.Proofs.Yticfcjmlphhpgaa
open Go.RowKit

def fnvStep (h : Int) (c : UInt8) : Int := IntKind.u64.wrap (bits BinOp.xor IntKind.u64 h (IntKind.u64.wrap ↑c.toNat) * 1099511628211)
def fnv (l : List UInt8) : Int := l.foldl fnvStep 14695981039346656037
theorem fnvStep_range (h : Int) (c : UInt8) : 0 ≤ fnvStep h c ∧ fnvStep h c < 18446744073709551616 := by
  unfold fnvStep
  rw [IntKind.wrap_u64]
  omega
theorem fnv_snoc (l : List UInt8) (c : UInt8) : fnv (l ++ [c]) = fnvStep (fnv l) c := by simp [fnv]
theorem fnv_range (l : List UInt8) : 0 ≤ fnv l ∧ fnv l < 18446744073709551616 := by
  rcases List.eq_nil_or_concat l with rfl | ⟨l', c, rfl⟩
  · simp [fnv]
  · rw [List.concat_eq_append, fnv_snoc]; exact fnvStep_range _ _
theorem take_snoc (s : ByteArray) (k : Nat) (h : k < s.size) : s.data.toList.take (k + 1) = s.data.toList.take k ++ [s[k]] := by
  rw [List.take_succ_eq_append_getElem (by simpa using h)]; rfl

def byteAt (H : Int) (j : Nat) : UInt8 := UInt8.ofNat (H / 2 ^ (8 * j) % 256).toNat
def le (H : Int) (k : Nat) : List UInt8 := (List.range k).map (byteAt H)
theorem byteAt_val (H : Int) (j : Nat) : ((byteAt H j).toNat : Int) = H / 2 ^ (8 * j) % 256 := by
  unfold byteAt
  generalize H / 2 ^ (8 * j) = x
  have h0 := Int.emod_nonneg x (b := 256) (by decide)
  have h1 := Int.emod_lt_of_pos x (b := 256) (by decide)
  rw [UInt8.toNat_ofNat']
  omega
theorem le_succ (H : Int) (k : Nat) : le H (k + 1) = le H k ++ [byteAt H k] := by simp [le, List.range_succ]
theorem le_length (H : Int) (k : Nat) : (le H k).length = k := by simp [le]
theorem shift_succ (H : Int) (k : Nat) : H / 2 ^ (8 * k) / 256 = H / 2 ^ (8 * (k + 1)) := by
  rw [Int.ediv_ediv_of_nonneg (Int.pow_nonneg (by decide)), show 8 * (k + 1) = 8 * k + 8 by omega, Int.pow_add]
  rfl
theorem shift_range (H : Int) (k : Nat) (h0 : 0 ≤ H) (h1 : H < 18446744073709551616) : 0 ≤ H / 2 ^ (8 * k) ∧ H / 2 ^ (8 * k) < 18446744073709551616 := by
  have hp : (0 : Int) < 2 ^ (8 * k) := Int.pow_pos (by decide)
  refine ⟨Int.ediv_nonneg h0 (Int.le_of_lt hp), Int.lt_of_le_of_lt (Int.ediv_le_self _ h0) h1⟩
/-- Bytes as cells. -/
def cellsOf (l : List UInt8) : List Value := l.map fun c => Value.int .u8 (c.toNat : Int)
theorem cellsOf_append (a b : List UInt8) : cellsOf (a ++ b) = cellsOf a ++ cellsOf b := by simp [cellsOf]
theorem cellsOf_length (a : List UInt8) : (cellsOf a).length = a.length := by simp [cellsOf]
end Go.Proofs.Yticfcjmlphhpgaa
