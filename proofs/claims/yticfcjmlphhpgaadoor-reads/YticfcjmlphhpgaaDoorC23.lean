/-
  WALKS of the reader, 23: a reader that is closed.
-/
import Derived.Test.YticfcjmlphhpgaaDoorC20
namespace Go.Proofs.YticfcjmlphhpgaaDoor
open Go.RowKit

set_option maxRecDepth 20000 in
set_option maxHeartbeats 1000000 in
theorem isClosed_yes (N : Nat) (w : World) (h : w.heap[N]? = some (.cells #[.pointer none] 51 (0, 0))) : Calls Tryd.prog 24 #[.pointer (some ⟨N, 0, none⟩)] w fun e w' => e = .returned (.bool true) ∧ w' = w := by
  have c0 : w.cell? ⟨N, 0, none⟩ = some (.pointer none) := by simp [World.cell?, h]
  go_enter Tryd.func24, Tryd.ntmps24
  go_wp2
  go_ret
  exact ⟨rfl, rfl⟩
set_option maxRecDepth 20000 in
set_option maxHeartbeats 1000000 in
theorem narFeed_closed (N : Nat) (s : ByteArray) (w : World) (h : w.heap[N]? = some (.cells #[.pointer none] 51 (0, 0))) : Calls Tryd.prog 13 #[.pointer (some ⟨N, 0, none⟩), .string s] w fun e w' => e = .returned (.int .i64 17) ∧ w' = w := by
  have cI := hide (isClosed_yes N w h)
  go_enter Tryd.func13, Tryd.ntmps13
  go_wp2_with fail
  refine cI.out.mono ?_
  rintro e w1 ⟨rfl, rfl⟩
  go_wp2
  go_ret
  exact ⟨rfl, rfl⟩
set_option maxRecDepth 20000 in
set_option maxHeartbeats 1000000 in
theorem narClose_closed (N : Nat) (w : World) (h : w.heap[N]? = some (.cells #[.pointer none] 51 (0, 0))) : Calls Tryd.prog 14 #[.pointer (some ⟨N, 0, none⟩)] w fun e w' => e = .returned (.tuple #[.slice none 0 0, .int .i64 17, .int .i64 0]) ∧ w' = w := by
  have cI := hide (isClosed_yes N w h)
  go_enter Tryd.func14, Tryd.ntmps14
  go_wp2_with fail
  refine cI.out.mono ?_
  rintro e w1 ⟨rfl, rfl⟩
  go_wp2
  go_ret3
  exact ⟨rfl, rfl⟩
/-- Close, and the reader is closed behind it. -/
theorem narClose_shut {B N R : Nat} {w : World} {rd : Rd} {tot : Nat} (h : NR B N R w rd) (hI : RInv rd tot) (ht : tot ≤ 50000000) :
    Calls Tryd.prog 14 #[.pointer (some ⟨N, 0, none⟩)] w fun e w' => (∃ v, e = .returned (.tuple #[v, .int .i64 (closeF rd).2.1, .int .i64 ((closeF rd).2.2 : Nat)]) ∧ SliceN w' v (closeF rd).1) ∧ Below B w w' ∧ w'.heap[N]? = some (.cells #[.pointer none] 51 (0, 0)) := by
  obtain ⟨hN, hBN, hR⟩ := h
  have c0 : w.cell? ⟨N, 0, none⟩ = some (.pointer (some ⟨R, 0, none⟩)) := by simp [World.cell?, hN]
  have f0 : w.frozen? ⟨N, 0, none⟩ = false := by simp [World.frozen?, hN]
  have cI := hide (isClosed_no N R w hN)
  have hk := (KT.refl [51] w).set hN (by decide) 0 (.pointer none)
  have hb := (Below.refl B w).setCell (p := ⟨N, 0, none⟩) hBN (.pointer none)
  have hN2 := hide (block_set hN 0 (.pointer none))
  have cC := hide (treeClose_any (hR.kt hk (by decide) (by decide) (by decide) (by decide) (by decide) (by decide)) hI ht)
  have hlt := lt_of_block hN
  clear hR hI hN hk
  go_enter Tryd.func14, Tryd.ntmps14
  go_wp2_with fail
  refine cI.out.mono ?_
  rintro e w1 ⟨rfl, rfl⟩
  go_wp2_with fail
  refine cC.out.mono ?_
  rintro e w2 ⟨⟨v, rfl, hv⟩, hb2⟩
  go_wp2
  go_ret3
  exact ⟨⟨_, rfl, hv⟩, hb.trans (hb2.mono (by have := hb.size; omega)), (hb2.block _ (lt_of_block hN2.out)).trans hN2.out⟩
end Go.Proofs.YticfcjmlphhpgaaDoor
