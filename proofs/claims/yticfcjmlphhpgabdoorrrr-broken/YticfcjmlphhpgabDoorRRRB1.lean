/-
  WALK of narkeep.pick.
-/
import Derived.Test.YticfcjmlphhpgabDoorRRRW7
import Derived.Test.YticfcjmlphhpgabDoorRRRG3
namespace Go.Proofs.YticfcjmlphhpgabDoorRRR
open Go.RowKit

def pickZ (k n : Int) : Int := if k < 0 then (-(k + 1)) % n else k % n
theorem pickZ_lt (k : Int) (n : Nat) (hn : 0 < n) : ∃ j : Nat, pickZ k n = j ∧ j < n := by
  have h1 : 0 ≤ pickZ k n := by unfold pickZ; split <;> exact Int.emod_nonneg _ (by omega)
  have h2 : pickZ k n < n := by unfold pickZ; split <;> exact Int.emod_lt_of_pos _ (by omega)
  exact ⟨(pickZ k n).toNat, by omega, by omega⟩

theorem pick_any (k n : Int) (w : World) (hk : -9223372036854775808 ≤ k) (hk2 : k ≤ 9223372036854775807) (hn : 0 < n) (hn2 : n ≤ 1000000) :
    Calls Tryd.prog 6 #[.int .i64 k, .int .i64 n] w fun e w' => e = .returned (.int .i64 (pickZ k n)) ∧ w' = w := by
  unfold pickZ
  by_cases h : k < 0
  · rw [if_pos h]
    have e : -(k + 1) % n = -((k + 1).tmod n) := by rw [← Int.neg_tmod, Int.tmod_eq_emod_of_nonneg (by omega)]
    rw [e]
    go_enter Tryd.func6, Tryd.ntmps6
    go_wp2
    go_ret
    exact ⟨rfl, rfl⟩
  · rw [if_neg h]
    go_enter Tryd.func6, Tryd.ntmps6
    go_wp2
    go_ret
    exact ⟨rfl, rfl⟩
end Go.Proofs.YticfcjmlphhpgabDoorRRR
