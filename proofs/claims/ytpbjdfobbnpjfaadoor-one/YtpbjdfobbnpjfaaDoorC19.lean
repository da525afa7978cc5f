/-
  WALKS of the reader, 19: package tree's reader: a new one, a piece more, the end.
-/
import Derived.Test.YtpbjdfobbnpjfaaDoorC18
namespace Go.Proofs.YtpbjdfobbnpjfaaDoor
open Go.RowKit

set_option maxRecDepth 20000 in
set_option maxHeartbeats 2000000 in
/-- A tree must come, at a reader that is new. -/
theorem MustTree_new (R : Nat) (w : World) (hR : w.heap[R]? = some (.cells #[.slice none 0 0, .int .i64 0, .slice none 0 0, .int .i64 0, .int .i64 0, .slice none 0 0, .slice none 0 0, .string ⟨#[]⟩] 61 (0, 0))) : Calls Tryd.prog 20 #[.pointer (some ⟨R, 0, none⟩)] w fun e w' => e = .returned (.tuple #[]) ∧ RdAt R R w' rd0 ∧ Below R w w' := by
  have hmf : ∀ (fn : Fn) (first cap : Array Value) (w : World), (Instr.makeFunc fn first cap).run Tryd.prog w = .ok (.func fn first cap) w := fun _ _ _ _ => rfl
  have hbd : Bd [] ⟨[], [], ⟨#[]⟩⟩ := ⟨by simp, by simp, by simp, Nat.zero_le _, (fun n hn => by cases hn), (fun n hn => by cases hn)⟩
  have hlt := lt_of_block hR
  have c5 : w.cell? ⟨R, 5, none⟩ = some (.slice none 0 0) := by simp [World.cell?, hR]
  have c6 : w.cell? ⟨R, 6, none⟩ = some (.slice none 0 0) := by simp [World.cell?, hR]
  have c7 : w.cell? ⟨R, 7, none⟩ = some (.string ⟨#[]⟩) := by simp [World.cell?, hR]
  have f5 : w.frozen? ⟨R, 5, none⟩ = false := by simp [World.frozen?, hR]
  have f6 : w.frozen? ⟨R, 6, none⟩ = false := by simp [World.frozen?, hR]
  have f7 : w.frozen? ⟨R, 7, none⟩ = false := by simp [World.frozen?, hR]
  have hb0 : Below R w (((w.setCell ⟨R, 5, none⟩ (.slice none 0 0)).setCell ⟨R, 6, none⟩ (.slice none 0 0)).setCell ⟨R, 7, none⟩ (.string ⟨#[]⟩)) := (((Below.refl R w).setCell (Nat.le_refl _) _).setCell (Nat.le_refl _) _).setCell (Nat.le_refl _) _
  have hz : (((w.setCell ⟨R, 5, none⟩ (.slice none 0 0)).setCell ⟨R, 6, none⟩ (.slice none 0 0)).setCell ⟨R, 7, none⟩ (.string ⟨#[]⟩)).heap.size = w.heap.size := by simp [World.setCell]
  have hM : RM R R (((w.setCell ⟨R, 5, none⟩ (.slice none 0 0)).setCell ⟨R, 6, none⟩ (.slice none 0 0)).setCell ⟨R, 7, none⟩ (.string ⟨#[]⟩)) (.slice none 0 0) (.slice none 0 0) (.slice none 0 0) (.slice none 0 0) 0 [] ⟨[], [], ⟨#[]⟩⟩ :=
    ⟨block_set (block_set (block_set hR 5 (.slice none 0 0)) 6 (.slice none 0 0)) 7 (.string ⟨#[]⟩), Nat.le_refl _, ⟨[], trivial, World.ownsRow_nil _ _ _ _⟩, World.ownsRow_nil _ _ _ _, World.ownsRow_nil _ _ _ _⟩
  go_enter Tryd.func20, Tryd.ntmps20
  go_wp2
  generalize ((w.setCell ⟨R, 5, none⟩ (.slice none 0 0)).setCell ⟨R, 6, none⟩ (.slice none 0 0)).setCell ⟨R, 7, none⟩ (.string ⟨#[]⟩) = W7 at hb0 hM hz ⊢
  have hM0 := hide (hM.new (drewB W7))
  clear hM c5 c6 c7 f5 f6 f7
  go_region_with (first
    | (go_at_call 31; refine (Word_any wNar _).mono ?_; rintro e u1 ⟨bx1, rfl, hx1, hu1⟩; have hM1 := hide (hM0.out.new hu1); have hI1 : IsIt u1 R (.word wNar) ⟨8, .func 45, #[], #[.pointer (some ⟨bx1, 0, none⟩)]⟩ := ⟨bx1, rfl, hx1⟩)
    | (go_at_call 32; refine (Words_any (.func 33) _ _ _).mono ?_; rintro e u2 ⟨rfl, hu2⟩; have hM2 := hide (hM1.out.new hu2); have hI1 := hI1.kept (KT.new [] hu2) (by simp); have hI2 : IsIt u2 R (.bracket) ⟨8, .func 33, #[.pointer (some ⟨R, 0, none⟩)], #[]⟩ := rfl)
    | (go_at_call 30; refine (Must_rm (hM2.out.new ((Below.refl _ _).alloc (Nat.le_refl _) _)) u2.heap.size [.word wNar, .bracket] [⟨8, .func 45, #[], #[.pointer (some ⟨bx1, 0, none⟩)]⟩, ⟨8, .func 33, #[.pointer (some ⟨R, 0, none⟩)], #[]⟩] ⟨hI1.kept (KT.new [] ((Below.refl _ _).alloc (Nat.le_refl _) _)) (by simp), hI2.kept (KT.new [] ((Below.refl _ _).alloc (Nat.le_refl _) _)) (by simp), trivial⟩ (block_new u2 _) hM2.out.lstNew (by have := hbd.ll; omega) (by simp)).mono ?_; rintro e uz ⟨⟨r, rfl⟩, lstz, hRMz, hbz, hkz⟩))
  all_goals
    go_wp2
    go_end0
    have hBw : R ≤ w.heap.size := by omega
    have hbz' := ((below_ext (below_ext (below_ext hb0 hBw (drewB W7)) hBw hu1) hBw hu2).alloc (by have := hu2.size; have := hu1.size; have := (drewB W7).size; have := hb0.size; omega) _).trans hbz
    refine ⟨rfl, ?_, hbz'⟩
    exact ⟨_, _, _, _, hRMz, World.ownsRow_nil _ _ _ _⟩
set_option maxRecDepth 20000 in
set_option maxHeartbeats 2000000 in
theorem treeNew_any (w : World) : Calls Tryd.prog 13 #[] w fun e w' => e = .returned (.pointer (some ⟨w.heap.size, 0, none⟩)) ∧ RdAt w.heap.size w.heap.size w' rd0 ∧ Below w.heap.size w w' := by
  have cM := hide (MustTree_new w.heap.size _ (block_new w (.cells #[.slice none 0 0, .int .i64 0, .slice none 0 0, .int .i64 0, .int .i64 0, .slice none 0 0, .slice none 0 0, .string ⟨#[]⟩] 61)))
  have hb0 := (Below.refl _ w).alloc (Nat.le_refl _) (.cells #[.slice none 0 0, .int .i64 0, .slice none 0 0, .int .i64 0, .int .i64 0, .slice none 0 0, .slice none 0 0, .string ⟨#[]⟩] 61)
  go_enter Tryd.func13, Tryd.ntmps13
  go_wp2_with fail
  refine cM.out.mono ?_
  rintro e w1 ⟨rfl, h1, h2⟩
  go_wp2
  go_ret
  exact ⟨rfl, h1, hb0.trans h2⟩

set_option maxRecDepth 20000 in
set_option maxHeartbeats 1000000 in
theorem treeFeed_any {B R : Nat} {w : World} {rd : Rd} {tot : Nat} (h : RdAt B R w rd) (hI : RInv rd tot) (s : ByteArray) (ht : tot + s.size ≤ 50000000) (hT : Lib.Utf8Tabs 0 1 w) (hB2 : 2 ≤ B) :
    Calls Tryd.prog 15 #[.pointer (some ⟨R, 0, none⟩), .string s] w fun e w' => (∃ r, e = .returned r) ∧ RdAt B R w' (feedF rd s.data.toList) ∧ Below B w w' ∧ KT TS5 w w' := by
  have cR := Read_any h hI s ht hT hB2
  cases hrd : feedF rd s.data.toList with
  | ok st =>
    rw [hrd] at cR
    have CR := hide cR
    clear cR
    go_enter Tryd.func15, Tryd.ntmps15
    go_wp2_with fail
    refine CR.out.mono ?_
    rintro e w1 ⟨rfl, h1, h2, h3⟩
    go_wp2
    go_end0
    exact ⟨⟨_, rfl⟩, h1, h2, h3⟩
  | bad er p =>
    rw [hrd] at cR
    have CR := hide cR
    clear cR
    go_enter Tryd.func15, Tryd.ntmps15
    go_wp2_with fail
    refine CR.out.mono ?_
    rintro e w1 ⟨rfl, ⟨⟨hBR, x0, nds, drs, path, hR⟩, hne⟩, h2, h3⟩
    have c5 : w1.cell? ⟨R, 5, none⟩ = some nds := by simp [World.cell?, hR]
    have c6 : w1.cell? ⟨R, 6, none⟩ = some drs := by simp [World.cell?, hR]
    have c7 : w1.cell? ⟨R, 7, none⟩ = some (.string path) := by simp [World.cell?, hR]
    have f5 : w1.frozen? ⟨R, 5, none⟩ = false := by simp [World.frozen?, hR]
    have f6 : w1.frozen? ⟨R, 6, none⟩ = false := by simp [World.frozen?, hR]
    have f7 : w1.frozen? ⟨R, 7, none⟩ = false := by simp [World.frozen?, hR]
    have HR := hide hR
    clear hR
    go_wp2
    go_end0
    have b5 := block_set HR.out 5 (.slice none 0 0)
    have b6 := block_set b5 6 (.slice none 0 0)
    have b7 := block_set b6 7 (.string ⟨#[]⟩)
    exact ⟨⟨_, rfl⟩, ⟨⟨hBR, x0, _, _, _, b7⟩, hne⟩, ((h2.setCell hBR _).setCell hBR _).setCell hBR _, ((h3.set HR.out (by decide) _ _).set b5 (by decide) _ _).set b6 (by decide) _ _⟩

set_option maxRecDepth 20000 in
set_option maxHeartbeats 1000000 in
theorem End_any {B R : Nat} {w : World} {rd : Rd} {tot : Nat} (h : RdAt B R w rd) (hI : RInv rd tot) (ht : tot ≤ 50000000) :
    Calls Tryd.prog 22 #[.pointer (some ⟨R, 0, none⟩)] w fun e w' => e = .returned (.tuple #[.int .i64 (closeF rd).2.1, .int .i64 ((closeF rd).2.2 : Nat)]) ∧ ∃ q, w' = w.drewN q := by
  cases rd with
  | bad er p =>
    obtain ⟨⟨hBR, x0, nds, drs, path, hR⟩, hne⟩ := h
    have c2 : w.cell? ⟨R, 2, none⟩ = some (.slice none 0 0) := by simp [World.cell?, hR]
    have c3 : w.cell? ⟨R, 3, none⟩ = some (.int .i64 er) := by simp [World.cell?, hR]
    have c4 : w.cell? ⟨R, 4, none⟩ = some (.int .i64 p) := by simp [World.cell?, hR]
    simp only [closeF]
    clear hR hne
    go_enter Tryd.func22, Tryd.ntmps22
    go_wp2
    go_quiet (fail)
    go_wp2
    go_ret2
    exact ⟨rfl, _, rfl⟩
  | ok st =>
    obtain ⟨left, lst, nds, drs, hM, hO⟩ := h
    have hsum := Inv.sum hI
    obtain ⟨ivs, h1, h2⟩ := hM.its
    obtain ⟨aL, capL, rfl, _⟩ := own_slice h2
    obtain ⟨aB, capB, rfl, _⟩ := own_slice hO
    have c0 : w.cell? ⟨R, 0, none⟩ = some (.slice aB st.left.length capB) := by simp [World.cell?, hM.blk]
    have c1 : w.cell? ⟨R, 1, none⟩ = some (.int .i64 st.pos) := by simp [World.cell?, hM.blk]
    have c2 : w.cell? ⟨R, 2, none⟩ = some (.slice aL st.list.length capL) := by simp [World.cell?, hM.blk]
    have c3 : w.cell? ⟨R, 3, none⟩ = some (.int .i64 0) := by simp [World.cell?, hM.blk]
    have c4 : w.cell? ⟨R, 4, none⟩ = some (.int .i64 0) := by simp [World.cell?, hM.blk]
    have hP := hide (fun q => Place_any R st.pos (w.drewN q) (by simp; exact c1))
    have hF := hide (fun q => Left_any R aB st.left.length capB (w.drewN q) (by simp; exact c0))
    simp only [closeF]
    by_cases hl : st.list = []
    · rw [if_pos hl]
      have hlz : ¬ (0 : Int) < st.list.length := by rw [hl]; simp
      clear hM hO h1 h2 hP hF c0 c1
      go_enter Tryd.func22, Tryd.ntmps22
      go_wp2
      go_quiet (fail)
      go_wp2
      go_ret2
      exact ⟨rfl, _, rfl⟩
    · rw [if_neg hl]
      have hlz : (0 : Int) < st.list.length := by have := List.length_pos_iff.2 hl; omega
      have hcast : ((st.pos + st.left.length : Nat) : Int) = (st.pos : Int) + st.left.length := by omega
      rw [hcast]
      clear hM hO h1 h2
      go_enter Tryd.func22, Tryd.ntmps22
      go_wp2
      go_quiet (first | (go_at_call 37; exact Calls.quiet_of_same (hP.out _)) | (go_at_call 38; exact Calls.quiet_of_same (hF.out _)))
      go_wp2
      go_ret2
      exact ⟨rfl, _, rfl⟩

set_option maxRecDepth 20000 in
set_option maxHeartbeats 1000000 in
theorem treeClose_any {B R : Nat} {w : World} {rd : Rd} {tot : Nat} (h : RdAt B R w rd) (hI : RInv rd tot) (ht : tot ≤ 50000000) :
    Calls Tryd.prog 16 #[.pointer (some ⟨R, 0, none⟩)] w fun e w' => (∃ v, e = .returned (.tuple #[v, .int .i64 (closeF rd).2.1, .int .i64 ((closeF rd).2.2 : Nat)]) ∧ SliceN w' v (closeF rd).1) ∧ Below w.heap.size w w' := by
  have cE := hide (End_any h hI ht)
  have nilN : ∀ w : World, SliceN w (.slice none 0 0) [] := fun w => ⟨none, 0, rfl, by simp, by simp [maxLen], fun _ => rfl, fun h => by simp at h⟩
  cases rd with
  | bad er p =>
    have hne := h.2
    simp only [closeF] at cE ⊢
    clear h
    go_enter Tryd.func16, Tryd.ntmps16
    go_wp2_with fail
    refine cE.out.mono ?_
    rintro e w1 ⟨rfl, q, rfl⟩
    go_wp2
    go_ret3
    exact ⟨⟨_, rfl, nilN _⟩, drewNB w q⟩
  | ok st =>
    simp only [closeF] at cE ⊢
    by_cases hl : st.list = []
    · rw [if_pos hl] at cE
      rw [if_pos hl]
      obtain ⟨left, lst, nds, drs, hM, hO⟩ := h
      have c5 : ∀ q, (w.drewN q).cell? ⟨R, 5, none⟩ = some nds := fun q => by simp [World.cell?, hM.blk]
      have hS : ∀ q, SliceN (w.drewN q) nds st.gr.nodes := fun q => (own_nodes (own_drewN hM.nd q)).1
      have HS := hide hS
      clear hM hO hS
      go_enter Tryd.func16, Tryd.ntmps16
      go_wp2_with fail
      refine cE.out.mono ?_
      rintro e w1 ⟨rfl, q, rfl⟩
      have c5' := c5 q
      have hb := drewNB w q
      have hs := HS.out q
      generalize w.drewN q = w1 at c5' hb hs
      clear c5 HS cE
      go_wp2
      go_ret3
      exact ⟨⟨_, rfl, hs⟩, hb⟩
    · rw [if_neg hl] at cE
      rw [if_neg hl]
      clear h
      go_enter Tryd.func16, Tryd.ntmps16
      go_wp2_with fail
      refine cE.out.mono ?_
      rintro e w1 ⟨rfl, q, rfl⟩
      go_wp2
      go_ret3
      exact ⟨⟨_, rfl, nilN _⟩, drewNB w q⟩
end Go.Proofs.YtpbjdfobbnpjfaaDoor
