/-
  WALKS of the reader, 5: items are made; a word is taken.
-/
import Derived.Test.YtpbjdfobbnpjfaaDoorC4
import Derived.Deep.RegionLaw
import Derived.Laws.Rows
namespace Go.Proofs.YtpbjdfobbnpjfaaDoor
open Go.RowKit

set_option maxRecDepth 20000 in
set_option maxHeartbeats 400000 in
theorem Words_any (fn : Fn) (first cap : Array Value) (w : World) :
    Calls Tryd.prog 32 #[.func fn first cap] w fun e w' => e = .returned (.agg #[.int .i64 8, .func fn first cap]) ∧ Below w.heap.size w w' := by
  go_enter Tryd.func32, Tryd.ntmps32
  go_wp2
  (try simp only [Exit.inBlock, Exit.then])
  refine bodyPost_ret (results_cell_row rfl _ _ w.heap.size 75 _ (0, 0) _ rfl (block_new w _) Tryd.underlying75 rfl (by kernel_rfl)) rfl ?_
  exact ⟨rfl, (Below.refl _ w).alloc (Nat.le_refl _) _⟩

set_option maxRecDepth 20000 in
set_option maxHeartbeats 400000 in
theorem Word_any (s : ByteArray) (w : World) :
    Calls Tryd.prog 31 #[.string s] w fun e w' => ∃ bx, e = .returned (.agg #[.int .i64 8, .func (.func 45) #[] #[.pointer (some ⟨bx, 0, none⟩)]]) ∧ w'.heap[bx]? = some (.cells #[.string s] 9 (0, 0)) ∧ Below w.heap.size w w' := by
  have hmf : ∀ (fn : Fn) (first cap : Array Value) (w : World), (Instr.makeFunc fn first cap).run Tryd.prog w = .ok (.func fn first cap) w := fun _ _ _ _ => rfl
  go_enter Tryd.func31, Tryd.ntmps31
  go_wp2_with fail
  refine (Words_any _ _ _ _).mono ?_
  rintro e w1 ⟨rfl, hb⟩
  have hlt : w.heap.size + 1 < ((w.alloc (.cells #[.string s] 9)).alloc (.cells #[.int .i64 0, .nilFunc] 75)).heap.size := by simp
  have h1 : w1.heap[w.heap.size]? = some (.cells #[.string s] 9 (0, 0)) := (hb.block _ (by omega)).trans (block_keep _ (block_new w _))
  have h2 : w1.heap[w.heap.size + 1]? = some (.cells #[.int .i64 0, .nilFunc] 75 (0, 0)) := by
    have := block_new (w.alloc (.cells #[.string s] 9)) (.cells #[.int .i64 0, .nilFunc] 75)
    rw [World.size_alloc] at this
    exact (hb.block _ hlt).trans this
  have hbw : Below w.heap.size w w1 := (((Below.refl _ w).alloc (Nat.le_refl _) _).alloc (by simp) _).trans (hb.mono (by simp; omega))
  have c0 : w1.cell? ⟨w.heap.size + 1, 0, none⟩ = some (.int .i64 0) := by simp [World.cell?, h2]
  have c1 : w1.cell? ⟨w.heap.size + 1, 1, none⟩ = some .nilFunc := by simp [World.cell?, h2]
  have f0 : w1.frozen? ⟨w.heap.size + 1, 0, none⟩ = false := by simp [World.frozen?, h2]
  have f1 : w1.frozen? ⟨w.heap.size + 1, 1, none⟩ = false := by simp [World.frozen?, h2]
  go_wp2
  (try simp only [Exit.inBlock, Exit.then])
  have h3 := block_set (block_set h2 0 (.int .i64 8)) 1 (.func (.func 45) #[] #[.pointer (some ⟨w.heap.size, 0, none⟩)])
  refine bodyPost_ret (results_cell_row rfl _ _ (w.heap.size + 1) 75 _ (0, 0) _ rfl h3 Tryd.underlying75 rfl (by kernel_rfl)) rfl ?_
  refine ⟨w.heap.size, rfl, ?_, ?_⟩
  · rw [Below.heap_setCell _ _ _ _ (by simp), Below.heap_setCell _ _ _ _ (by simp)]; exact h1
  · exact (hbw.setCell (p := ⟨w.heap.size + 1, 0, none⟩) (by simp) _).setCell (p := ⟨w.heap.size + 1, 1, none⟩) (by simp) _

set_option maxRecDepth 20000 in
set_option maxHeartbeats 400000 in
theorem data_any (R : Nat) (w : World) :
    Calls Tryd.prog 55 #[.pointer (some ⟨R, 0, none⟩)] w fun e w' => e = .returned (.agg #[.int .i64 100, .func (.func 62) #[.pointer (some ⟨R, 0, none⟩)] #[]]) ∧ Below w.heap.size w w' := by
  have hmf : ∀ (fn : Fn) (first cap : Array Value) (w : World), (Instr.makeFunc fn first cap).run Tryd.prog w = .ok (.func fn first cap) w := fun _ _ _ _ => rfl
  go_enter Tryd.func55, Tryd.ntmps55
  go_wp2
  (try simp only [Exit.inBlock, Exit.then])
  refine bodyPost_ret (results_cell_row rfl _ _ w.heap.size 75 _ (0, 0) _ rfl (block_new w _) Tryd.underlying75 rfl (by kernel_rfl)) rfl ?_
  exact ⟨rfl, (Below.refl _ w).alloc (Nat.le_refl _) _⟩

set_option maxRecDepth 20000 in
set_option maxHeartbeats 400000 in
theorem takeWord_any (bx : Nat) (want s : ByteArray) (w : World) (h : w.heap[bx]? = some (.cells #[.string want] 9 (0, 0))) :
    Calls Tryd.prog 45 #[.string s, .pointer (some ⟨bx, 0, none⟩)] w fun e w' => e = .returned (.int .i64 (if s = want then 0 else 5)) ∧ w' = w := by
  have hc : w.cell? ⟨bx, 0, none⟩ = some (.string want) := by simp [World.cell?, h]
  by_cases e : s = want
  · subst e
    rw [if_pos rfl]
    have hb : (s.toList == s.toList) = true := by simp
    go_enter Tryd.func45, Tryd.ntmps45
    go_wp2
    go_ret
    exact ⟨rfl, rfl⟩
  · rw [if_neg e]
    have hb := eqB_false e
    go_enter Tryd.func45, Tryd.ntmps45
    go_wp2
    go_ret
    exact ⟨rfl, rfl⟩
end Go.Proofs.YtpbjdfobbnpjfaaDoor
