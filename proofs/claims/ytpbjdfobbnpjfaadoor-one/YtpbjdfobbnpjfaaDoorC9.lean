/-
  WALKS of the reader, 9: the word behind file.
-/
import Derived.Test.YtpbjdfobbnpjfaaDoorC8
namespace Go.Proofs.YtpbjdfobbnpjfaaDoor
open Go.RowKit

theorem exec_list : wExec.toList = [101, 120, 101, 99] := by rw [ByteArray.toList_eq]; rfl
theorem data_list : wData.toList = [100, 97, 116, 97] := by rw [ByteArray.toList_eq]; rfl
/-- A node's kind is stored. -/
theorem RM.kindSet {B R : Nat} {w : World} {left lst drs : Value} {gN n cap : Nat} {pos : Nat} {list : List It} {g : Gr} (h : RM B R w left lst (.slice (some ⟨gN, 0, none⟩) n cap) drs pos list g) (k : Nat) (hk : g.nodes.length = k + 1) (z : Int) :
    RM B R (w.setCell ⟨gN, k * 3 + 1, none⟩ (.int .i64 z)) left lst (.slice (some ⟨gN, 0, none⟩) n cap) drs pos list ⟨setN g.nodes ⟨(lastN g.nodes).path, z, (lastN g.nodes).data⟩, g.dirs, g.path⟩ ∧ Below B w (w.setCell ⟨gN, k * 3 + 1, none⟩ (.int .i64 z)) ∧ KT TS w (w.setCell ⟨gN, k * 3 + 1, none⟩ (.int .i64 z)) := by
  rw [lastN_get _ k hk, setN_set _ k hk]
  exact h.node (k * 3 + 1) (.int .i64 z) _ (by rw [List.length_set]) (flat3_kind g.nodes k (by omega) z)

set_option maxRecDepth 20000 in
set_option maxHeartbeats 2000000 in
theorem takeInFile_any {B R : Nat} {w : World} {left lst nds drs : Value} {pos : Nat} {list : List It} {g : Gr} (h : RM B R w left lst nds drs pos list g) (hbd : Bd list g) (hne : g.nodes ≠ []) (s : ByteArray) :
    Calls Tryd.prog 54 #[.pointer (some ⟨R, 0, none⟩), .string s] w (TakePost B R w left pos list (takeF g .inFile s)) := by
  obtain ⟨k, hk⟩ : ∃ k, g.nodes.length = k + 1 := ⟨g.nodes.length - 1, by have := List.length_pos_iff.2 hne; omega⟩
  have hk30 := hbd.ln
  have hmf : ∀ (fn : Fn) (first cap : Array Value) (w : World), (Instr.makeFunc fn first cap).run Tryd.prog w = .ok (.func fn first cap) w := fun _ _ _ _ => rfl
  obtain ⟨gN, capN, rfl, hcN⟩ := own_form h.nd (by omega)
  rw [hk] at hcN
  have hk' : k < g.nodes.length := by omega
  have hBw : B ≤ w.heap.size := by have := h.lt; have := h.BR; omega
  obtain ⟨T, hT⟩ : ∃ T, takeF g .inFile s = T := ⟨_, rfl⟩
  rw [hT]
  rw [take_inFile] at hT
  by_cases h1 : s = wExec
  · rw [if_pos h1] at hT
    subst hT
    have hb1 : (s.toList == [101, 120, 101, 99]) = true := by rw [h1, exec_list]; rfl
    have c5 : w.cell? ⟨R, 5, none⟩ = some (.slice (some ⟨gN, 0, none⟩) (k + 1) capN) := by simp [World.cell?, h.blk, hk]
    have cN := hide (newest_any R gN (k + 1) capN w (by omega) hcN c5 (by omega))
    simp only [Nat.add_sub_cancel] at cN
    obtain ⟨f0, f1, f2⟩ := flat3_get g.nodes k hk'
    have hrow := h.nd
    have d1 : ∀ q, (w.drewN q).cell? ⟨gN, k * 3 + 1, none⟩ = some (.int .i64 g.nodes[k].kind) := fun q => (own_drewN hrow q).cellAt (k * 3 + 1) (by omega) |>.trans f1
    have z1 : ∀ q, (w.drewN q).frozen? ⟨gN, k * 3 + 1, none⟩ = false := fun q => (own_drewN hrow q).frozenAt (k * 3 + 1)
    have H := hide h
    clear h hne hrow f0 f1 f2 h1
    go_enter Tryd.func54, Tryd.ntmps54
    go_wp2_with fail
    refine cN.out.mono ?_
    rintro e w1 ⟨rfl, q, rfl⟩
    have e1 := d1 q
    have y1 := z1 q
    have hRM1 := H.out.new (drewNB w q)
    have hB1 : Below B w (w.drewN q) := (drewNB w q).mono hBw
    have hK1 : KT TS w (w.drewN q) := KT.new TS (drewNB w q)
    generalize w.drewN q = w1 at e1 y1 hRM1 hB1 hK1
    clear cN d1 z1 c5
    obtain ⟨a1, a2, a3⟩ := hRM1.kindSet k hk 2
    have hB0 := hB1.trans a2
    have hK0 := hK1.trans a3
    have hM0 := hide (a1.new (drewB _))
    clear hRM1 a1 a2 a3 hB1 hK1
    generalize hW : w1.setCell ⟨gN, k * 3 + 1, none⟩ (.int .i64 2) = W7 at hB0 hK0 hM0
    go_wp2
    skip
    clear hW e1 y1
    go_region_with (first
      | (go_at_call 31; refine (Word_any wNone _).mono ?_; rintro e u1 ⟨bx1, rfl, hx1, hu1⟩; have hM1 := hide (hM0.out.new hu1); have hI1 : IsIt u1 R (.word wNone) ⟨8, .func 45, #[], #[.pointer (some ⟨bx1, 0, none⟩)]⟩ := ⟨bx1, rfl, hx1⟩)
      | (go_at_call 31; refine (Word_any wData _).mono ?_; rintro e u2 ⟨bx2, rfl, hx2, hu2⟩; have hM2 := hide (hM1.out.new hu2); have hI1 := hI1.kept (KT.new [] hu2) (by simp); have hI2 : IsIt u2 R (.word wData) ⟨8, .func 45, #[], #[.pointer (some ⟨bx2, 0, none⟩)]⟩ := ⟨bx2, rfl, hx2⟩)
      | (go_at_call 55; refine (data_any R _).mono ?_; rintro e u3 ⟨rfl, hu3⟩; have hM3 := hide (hM2.out.new hu3); have hI1 := hI1.kept (KT.new [] hu3) (by simp); have hI2 := hI2.kept (KT.new [] hu3) (by simp); have hI3 : IsIt u3 R (.data) ⟨100, .func 62, #[.pointer (some ⟨R, 0, none⟩)], #[]⟩ := rfl)
      | (go_at_call 31; refine (Word_any wClose _).mono ?_; rintro e u4 ⟨bx4, rfl, hx4, hu4⟩; have hM4 := hide (hM3.out.new hu4); have hI1 := hI1.kept (KT.new [] hu4) (by simp); have hI2 := hI2.kept (KT.new [] hu4) (by simp); have hI3 := hI3.kept (KT.new [] hu4) (by simp); have hI4 : IsIt u4 R (.word wClose) ⟨8, .func 45, #[], #[.pointer (some ⟨bx4, 0, none⟩)]⟩ := ⟨bx4, rfl, hx4⟩)
      | (go_at_call 30; refine (Must_rm (hM4.out.new ((Below.refl _ _).alloc (Nat.le_refl _) _)) u4.heap.size [.word wNone, .word wData, .data, .word wClose] [⟨8, .func 45, #[], #[.pointer (some ⟨bx1, 0, none⟩)]⟩, ⟨8, .func 45, #[], #[.pointer (some ⟨bx2, 0, none⟩)]⟩, ⟨100, .func 62, #[.pointer (some ⟨R, 0, none⟩)], #[]⟩, ⟨8, .func 45, #[], #[.pointer (some ⟨bx4, 0, none⟩)]⟩] ⟨hI1.kept (KT.new [] ((Below.refl _ _).alloc (Nat.le_refl _) _)) (by simp), hI2.kept (KT.new [] ((Below.refl _ _).alloc (Nat.le_refl _) _)) (by simp), hI3.kept (KT.new [] ((Below.refl _ _).alloc (Nat.le_refl _) _)) (by simp), hI4.kept (KT.new [] ((Below.refl _ _).alloc (Nat.le_refl _) _)) (by simp), trivial⟩ (block_new u4 _) hM4.out.lstNew (by have := hbd.ll; omega) (by simp)).mono ?_; rintro e uz ⟨⟨r, rfl⟩, lstz, hRMz, hbz, hkz⟩))
    all_goals
      go_wp2
      go_ret
      refine ⟨rfl, lstz, _, _, hRMz, ?_, ?_⟩
      · exact ((below_ext (below_ext (below_ext (below_ext (below_ext hB0 hBw (drewB W7)) hBw hu1) hBw hu2) hBw hu3) hBw hu4).alloc (by have := hu1.size; have := hu2.size; have := hu3.size; have := hu4.size; have := (drewB W7).size; have := hB0.size; omega) _).trans hbz
      · exact ((((((hK0.trans (KT.new TS (drewB W7))).trans (KT.new TS hu1)).trans (KT.new TS hu2)).trans (KT.new TS hu3)).trans (KT.new TS hu4)).alloc _).trans hkz
  · rw [if_neg h1] at hT
    have hb1 : (s.toList == [101, 120, 101, 99]) = false := by rw [← exec_list]; exact eqB_false h1
    by_cases h2 : s = wData
    · rw [if_pos h2] at hT
      subst hT
      have hb2 : (s.toList == [100, 97, 116, 97]) = true := by rw [h2, data_list]; rfl
      have hB0 : Below B w w := Below.refl _ _
      have hK0 : KT TS w w := KT.refl _ _
      have hM0 := hide (h.new (drewB w))
      clear h h1 h2
      go_enter Tryd.func54, Tryd.ntmps54
      go_wp2
      go_region_with (first
        | (go_at_call 55; refine (data_any R _).mono ?_; rintro e u1 ⟨rfl, hu1⟩; have hM1 := hide (hM0.out.new hu1); have hI1 : IsIt u1 R (.data) ⟨100, .func 62, #[.pointer (some ⟨R, 0, none⟩)], #[]⟩ := rfl)
        | (go_at_call 31; refine (Word_any wClose _).mono ?_; rintro e u2 ⟨bx2, rfl, hx2, hu2⟩; have hM2 := hide (hM1.out.new hu2); have hI1 := hI1.kept (KT.new [] hu2) (by simp); have hI2 : IsIt u2 R (.word wClose) ⟨8, .func 45, #[], #[.pointer (some ⟨bx2, 0, none⟩)]⟩ := ⟨bx2, rfl, hx2⟩)
        | (go_at_call 30; refine (Must_rm (hM2.out.new ((Below.refl _ _).alloc (Nat.le_refl _) _)) u2.heap.size [.data, .word wClose] [⟨100, .func 62, #[.pointer (some ⟨R, 0, none⟩)], #[]⟩, ⟨8, .func 45, #[], #[.pointer (some ⟨bx2, 0, none⟩)]⟩] ⟨hI1.kept (KT.new [] ((Below.refl _ _).alloc (Nat.le_refl _) _)) (by simp), hI2.kept (KT.new [] ((Below.refl _ _).alloc (Nat.le_refl _) _)) (by simp), trivial⟩ (block_new u2 _) hM2.out.lstNew (by have := hbd.ll; omega) (by simp)).mono ?_; rintro e uz ⟨⟨r, rfl⟩, lstz, hRMz, hbz, hkz⟩))
      all_goals
        go_wp2
        go_ret
        refine ⟨rfl, lstz, _, _, hRMz, ?_, ?_⟩
        · exact ((below_ext (below_ext (below_ext hB0 hBw (drewB w)) hBw hu1) hBw hu2).alloc (by have := hu1.size; have := hu2.size; have := (drewB w).size; have := hB0.size; omega) _).trans hbz
        · exact ((((hK0.trans (KT.new TS (drewB w))).trans (KT.new TS hu1)).trans (KT.new TS hu2)).alloc _).trans hkz
    · rw [if_neg h2] at hT
      subst hT
      have hb2 : (s.toList == [100, 97, 116, 97]) = false := by rw [← data_list]; exact eqB_false h2
      clear h1 h2
      go_enter Tryd.func54, Tryd.ntmps54
      go_wp2
      go_ret
      exact ⟨rfl, Below.refl _ _⟩
end Go.Proofs.YtpbjdfobbnpjfaaDoor
