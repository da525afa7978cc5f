import Derived.Test.YticcbaapbnfmmaaDoorP17
import Derived.Test.YticcbaapbnfmmaaDoorP18
import Derived.Test.YticcbaapbnfmmaaDoorP19
namespace Go.Proofs.YticcbaapbnfmmaaDoor
open Go.RowKit Go.Maps

theorem pick_neg {c : Int} {n : Nat} (hn : 0 < n) (hc : c < 0) : -(c + 1).tmod (n : Int) = (((-(c + 1)) % (n : Int)).toNat : Int) ∧ ((-(c + 1)) % (n : Int)).toNat < n := by
  have h0 : (0 : Int) ≤ -(c + 1) := by omega
  have hn' : (0 : Int) < n := by omega
  have h1 := Int.emod_nonneg (-(c + 1)) (by omega : (n : Int) ≠ 0)
  have h2 := Int.emod_lt_of_pos (-(c + 1)) hn'
  constructor
  · rw [Int.toNat_of_nonneg h1, ← Int.tmod_eq_emod_of_nonneg h0, Int.neg_tmod]
  · omega
/-- Which of n things a number speaks of. -/
def pickN (c : Int) (n : Nat) : Nat := if c < 0 then ((-(c + 1)) % (n : Int)).toNat else (c % (n : Int)).toNat
theorem pickN_lt (c : Int) {n : Nat} (hn : 0 < n) : pickN c n < n := by
  have hn' : (0 : Int) < n := by omega
  unfold pickN
  split
  · have := Int.emod_lt_of_pos (-(c + 1)) hn'
    omega
  · have := Int.emod_lt_of_pos c hn'
    omega
set_option maxRecDepth 20000 in
set_option maxHeartbeats 400000 in
theorem pick_det (c : Int) (n : Nat) (hn : 0 < n) (hl : n ≤ 1000000) (hc : -9223372036854775808 ≤ c ∧ c ≤ 9223372036854775807) (w : World) : Calls Tryd.prog 5 #[.int .i64 c, .int .i64 n] w fun e w' => e = .returned (.int .i64 (pickN c n : Nat)) ∧ w' = w := by
  unfold pickN
  by_cases h : c < 0
  · rw [if_pos h]
    obtain ⟨i, hi, h1⟩ : ∃ i : Nat, ((-(c + 1)) % (n : Int)).toNat = i ∧ -(c + 1).tmod (n : Int) = i := ⟨_, rfl, (pick_neg hn h).1⟩
    rw [hi]
    clear hi
    go_enter Tryd.func5, Tryd.ntmps5
    go_wp2
    go_ret
    exact ⟨rfl, rfl⟩
  · rw [if_neg h]
    have h1 := Int.emod_nonneg c (by omega : (n : Int) ≠ 0)
    have h3 : c % (n : Int) = ((c % (n : Int)).toNat : Int) := (Int.toNat_of_nonneg h1).symm
    generalize (c % (n : Int)).toNat = i at h3 ⊢
    clear h1
    go_enter Tryd.func5, Tryd.ntmps5
    go_wp2
    go_ret
    exact ⟨rfl, rfl⟩
end Go.Proofs.YticcbaapbnfmmaaDoor
namespace Go.Proofs.YticcbaapbnfmmaaDoor
open Go.RowKit Go.Maps

theorem cellBG {w w' : World} {a : Addr} {u : Value} (h : Below w.heap.size w w') (hc : w.cell? a = some u) : w'.cell? a = some u := (h.cell (World.block_lt_of_cell? _ _ hc)).trans hc
end Go.Proofs.YticcbaapbnfmmaaDoor
namespace Go.Proofs.YticcbaapbnfmmaaDoor
open Go.RowKit Go.Maps

theorem StN.lack {S : List Ent} {n i : Nat} (h : StN S n) (hi : i < n) : lackR S [nmK i] = false := by
  have h1 := h.has i hi
  unfold lackR
  cases hf : findS S (nmK i) with
  | none => rw [hf] at h1; cases h1
  | some e => simp [hf]
end Go.Proofs.YticcbaapbnfmmaaDoor
