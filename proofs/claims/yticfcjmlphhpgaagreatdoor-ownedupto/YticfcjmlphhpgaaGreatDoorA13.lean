import Derived.Test.YticfcjmlphhpgaaGreatDoorA06
import Derived.Test.YticfcjmlphhpgaaGreatDoorA10
import Derived.Test.YticfcjmlphhpgaaGreatDoorA11
/-
  WALKS of the reader, 13: one string more.
-/
namespace Go.Proofs.YticfcjmlphhpgaaGreatDoor
open Go.RowKit

set_option maxRecDepth 20000 in
set_option maxHeartbeats 400000 in
theorem Place_any (R : Nat) (pos : Int) (w : World) (c1 : w.cell? ⟨R, 1, none⟩ = some (.int .i64 pos)) : Calls Tryz.prog 114 #[.pointer (some ⟨R, 0, none⟩)] w fun e w' => e = .returned (.int .i64 pos) ∧ w' = w := by
  go_enter Tryz.func114, Tryz.ntmps114
  go_wp2
  go_ret
  exact ⟨rfl, rfl⟩
set_option maxRecDepth 20000 in
set_option maxHeartbeats 400000 in
theorem Left_any (R : Nat) (a : Option Addr) (n cap : Nat) (w : World) (c0 : w.cell? ⟨R, 0, none⟩ = some (.slice a n cap)) : Calls Tryz.prog 115 #[.pointer (some ⟨R, 0, none⟩)] w fun e w' => e = .returned (.int .i64 n) ∧ w' = w := by
  go_enter Tryz.func115, Tryz.ntmps115
  go_wp2
  go_ret
  exact ⟨rfl, rfl⟩
set_option maxRecDepth 20000 in
set_option maxHeartbeats 400000 in
theorem Cut_short (R : Nat) (a : Option Addr) (n cap : Nat) (m : Int) (w : World) (c0 : w.cell? ⟨R, 0, none⟩ = some (.slice a n cap)) (hn : n < 8) : Calls Tryz.prog 160 #[.pointer (some ⟨R, 0, none⟩), .int .i64 m] w fun e w' => e = .returned (.tuple #[.string ⟨#[]⟩, .int .i64 2]) ∧ w' = w := by
  have hz : (n : Int) < 8 := by omega
  go_enter Tryz.func160, Tryz.ntmps160
  go_wp2
  go_ret2
  exact ⟨rfl, rfl⟩
/-- A reader that has failed. -/
def RBad (B R : Nat) (w : World) (e : Int) (p : Nat) : Prop := B ≤ R ∧ ∃ nds drs path, w.heap[R]? = some (.cells #[.slice none 0 0, .int .i64 0, .slice none 0 0, .int .i64 e, .int .i64 p, nds, drs, .string path] 127 (0, 0))
set_option maxRecDepth 20000 in
set_option maxHeartbeats 1000000 in
theorem fail_any (B R : Nat) (w : World) (x0 x1 x2 x3 x4 x5 x6 : Value) (path : ByteArray) (hR : w.heap[R]? = some (.cells #[x0, x1, x2, x3, x4, x5, x6, .string path] 127 (0, 0))) (hB : B ≤ R) (er : Int) (p : Nat) :
    Calls Tryz.prog 159 #[.pointer (some ⟨R, 0, none⟩), .int .i64 er, .int .i64 p] w fun e w' => (∃ r, e = .returned r) ∧ RBad B R w' er p ∧ Below B w w' ∧ KT TS w w' := by
  have c0 : w.cell? ⟨R, 0, none⟩ = some x0 := by simp [World.cell?, hR]
  have c1 : w.cell? ⟨R, 1, none⟩ = some x1 := by simp [World.cell?, hR]
  have c2 : w.cell? ⟨R, 2, none⟩ = some x2 := by simp [World.cell?, hR]
  have c3 : w.cell? ⟨R, 3, none⟩ = some x3 := by simp [World.cell?, hR]
  have c4 : w.cell? ⟨R, 4, none⟩ = some x4 := by simp [World.cell?, hR]
  have f0 : w.frozen? ⟨R, 0, none⟩ = false := by simp [World.frozen?, hR]
  have f1 : w.frozen? ⟨R, 1, none⟩ = false := by simp [World.frozen?, hR]
  have f2 : w.frozen? ⟨R, 2, none⟩ = false := by simp [World.frozen?, hR]
  have f3 : w.frozen? ⟨R, 3, none⟩ = false := by simp [World.frozen?, hR]
  have f4 : w.frozen? ⟨R, 4, none⟩ = false := by simp [World.frozen?, hR]
  go_enter Tryz.func159, Tryz.ntmps159
  go_wp2
  go_end0
  have b0 := block_set hR 0 (.slice none 0 0)
  have b1 := block_set b0 1 (.int .i64 0)
  have b2 := block_set b1 2 (.slice none 0 0)
  have b3 := block_set b2 3 (.int .i64 er)
  have b4 := block_set b3 4 (.int .i64 p)
  refine ⟨⟨_, rfl⟩, ⟨hB, x5, x6, path, b4⟩, ?_, ?_⟩
  · exact (((((Below.refl B w).setCell hB _).setCell hB _).setCell hB _).setCell hB _).setCell hB _
  · exact (((((KT.refl TS w).set hR (by decide) _ _).set b0 (by decide) _ _).set b1 (by decide) _ _).set b2 (by decide) _ _).set b3 (by decide) _ _

/-- The bytes that are left, in memory. -/
def LeftAt (w : World) (v : Value) (l : Bs) : Prop := ∃ a cap, v = .slice a l.length cap ∧ l.length ≤ cap ∧ (a = none → cap = 0) ∧ (∀ x, a = some x → x.spot = none) ∧ (0 < l.length → ∃ g o c fz, a = some ⟨g, o, none⟩ ∧ w.heap[g]? = some (.cells c 5 fz) ∧ BytesAt w g o l)
theorem LeftAt.kept {ts : List TypeId} {w w' : World} {v : Value} {l : Bs} (h : LeftAt w v l) (hk : KT ts w w') (h5 : ¬ 5 ∈ ts) : LeftAt w' v l := by
  obtain ⟨a, cap, e, hc, hz, hy, hb⟩ := h
  refine ⟨a, cap, e, hc, hz, hy, fun hl => ?_⟩
  obtain ⟨g, o, c, fz, ea, hg, hB⟩ := hb hl
  have hg' := hk _ _ _ _ hg h5
  refine ⟨g, o, c, fz, ea, hg', fun i hi => ?_⟩
  have := hB i hi
  simp only [World.cell?, hg] at this
  simp only [World.cell?, hg']
  exact this
theorem RM.setCut {B R : Nat} {w : World} {left lst nds drs : Value} {pos : Nat} {list : List It} {g : Gr} (h : RM B R w left lst nds drs pos list g) (left' : Value) (pos' : Nat) :
    RM B R ((w.setCell ⟨R, 0, none⟩ left').setCell ⟨R, 1, none⟩ (.int .i64 pos')) left' lst nds drs pos' list g ∧ Below B w ((w.setCell ⟨R, 0, none⟩ left').setCell ⟨R, 1, none⟩ (.int .i64 pos')) ∧ KT [127] w ((w.setCell ⟨R, 0, none⟩ left').setCell ⟨R, 1, none⟩ (.int .i64 pos')) := by
  have b0 := block_set h.blk 0 left'
  have hk : KT [127] w ((w.setCell ⟨R, 0, none⟩ left').setCell ⟨R, 1, none⟩ (.int .i64 pos')) := ((KT.refl [127] w).set h.blk (by decide) _ _).set b0 (by decide) _ _
  obtain ⟨ivs, h1, h2⟩ := h.its
  exact ⟨⟨block_set b0 1 _, h.BR, ⟨ivs, h1.kept hk (by decide), own_kt h2 hk (by decide)⟩, own_kt h.nd hk (by decide), own_kt h.dr hk (by decide)⟩, ((Below.refl B w).setCell h.BR _).setCell h.BR _, hk⟩
theorem RM.popList {B R : Nat} {w : World} {left nds drs : Value} {gL n cap : Nat} {pos : Nat} {i : It} {r : List It} {g : Gr} (h : RM B R w left (.slice (some ⟨gL, 0, none⟩) n cap) nds drs pos (i :: r) g) :
    RM B R (w.setCell ⟨R, 2, none⟩ (.slice (some ⟨gL, 0, none⟩) r.length cap)) left (.slice (some ⟨gL, 0, none⟩) r.length cap) nds drs pos r g ∧ Below B w (w.setCell ⟨R, 2, none⟩ (.slice (some ⟨gL, 0, none⟩) r.length cap)) ∧ KT [127] w (w.setCell ⟨R, 2, none⟩ (.slice (some ⟨gL, 0, none⟩) r.length cap)) := by
  have hk : KT [127] w (w.setCell ⟨R, 2, none⟩ (.slice (some ⟨gL, 0, none⟩) r.length cap)) := (KT.refl [127] w).set h.blk (by decide) _ _
  obtain ⟨ivs, h1, h2⟩ := h.its
  cases ivs with
  | nil => exact h1.elim
  | cons x y =>
    obtain rfl : n = (i :: r).length := by
      obtain ⟨a, c, hv, _⟩ := own_slice h2
      injection hv
    have hy := h1.2.len
    have o1 := own_take h2 (m := r.length) (by simp)
    rw [flatI_take] at o1
    have e : (x :: y).reverse.take r.length = y.reverse := by
      rw [List.reverse_cons]; exact List.take_left' (by rw [List.length_reverse, hy])
    rw [e] at o1
    exact ⟨⟨block_set h.blk 2 _, h.BR, ⟨y, h1.2.kept hk (by decide), own_kt o1 hk (by decide)⟩, own_kt h.nd hk (by decide), own_kt h.dr hk (by decide)⟩, (Below.refl B w).setCell h.BR _, hk⟩
/-- Cut, on the reader. -/
def CutPost (B R : Nat) (W : World) (lst nds drs : Value) (pos : Nat) (list : List It) (g : Gr) (r : Ct) (w' : World) : Prop := match r with
  | .ok _ rest n => ∃ left', RM B R w' left' lst nds drs (pos + n) list g ∧ LeftAt w' left' rest ∧ Below B W w' ∧ KT [127] W w'
  | _ => Below W.heap.size W w'
theorem Cut_rm {B R : Nat} {w : World} {left lst nds drs : Value} {pos : Nat} {list : List It} {g : Gr} (h : RM B R w left lst nds drs pos list g) (l : Bs) (hL : LeftAt w left l) (most : Nat) (hl : l.length ≤ 100000000) (hp : pos ≤ 100000000) (hm : most ≤ 100) :
    Calls Tryz.prog 160 #[.pointer (some ⟨R, 0, none⟩), .int .i64 most] w fun e w' => e = .returned (cutRes (cutF l most)) ∧ CutPost B R w lst nds drs pos list g (cutF l most) w' := by
  obtain ⟨a, cap, rfl, hc, hz, hy, hb⟩ := hL
  have c0 : w.cell? ⟨R, 0, none⟩ = some (.slice a l.length cap) := by simp [World.cell?, h.blk]
  have c1 : w.cell? ⟨R, 1, none⟩ = some (.int .i64 pos) := by simp [World.cell?, h.blk]
  have f0 : w.frozen? ⟨R, 0, none⟩ = false := by simp [World.frozen?, h.blk]
  have f1 : w.frozen? ⟨R, 1, none⟩ = false := by simp [World.frozen?, h.blk]
  by_cases h8 : l.length < 8
  · have e : cutF l most = .wait := by unfold cutF; rw [if_pos h8]
    rw [e]
    refine (Cut_short R a l.length cap most w c0 h8).mono ?_
    rintro e w' ⟨rfl, rfl⟩
    exact ⟨rfl, Below.refl _ _⟩
  · obtain ⟨gB, o, c, fz, rfl, hg, hB⟩ := hb (by omega)
    have hne : R ≠ gB := fun e => by
      rw [← e, h.blk] at hg
      injection hg with hg
      injection hg with _ hg _
      exact absurd hg (by decide)
    refine (Cut_any w R gB o cap most l pos c0 c1 f0 f1 hB hc (by omega) (by omega) hm hne).mono ?_
    rintro e w' ⟨rfl, q, hq⟩
    refine ⟨rfl, ?_⟩
    cases hcut : cutF l most with
    | wait => rw [hcut] at hq; simp only at hq; subst hq; exact drewNB w q
    | bad er => rw [hcut] at hq; simp only at hq; subst hq; exact drewNB w q
    | ok s rest n =>
      rw [hcut] at hq
      obtain ⟨o', cap', rfl, hB', hc'⟩ := hq
      have hq' := drewNB w q
      obtain ⟨a1, a2, a3⟩ := (h.new hq').setCut (.slice (some ⟨gB, o', none⟩) rest.length cap') (pos + n)
      have hkk := (KT.new [127] hq').trans a3
      refine ⟨_, a1, ⟨_, cap', rfl, hc', (fun h => by cases h), (fun x h => by cases h; rfl), fun _ => ⟨gB, o', c, fz, rfl, hkk _ _ _ _ hg (by decide), fun i hi => ?_⟩⟩, ((hq'.mono (by have := h.lt; have := h.BR; omega)).trans a2), hkk⟩
      have hg' := hkk _ _ _ _ hg (by decide)
      have := hB' i hi
      simp only [World.cell?, hg] at this
      simp only [World.cell?, hg']
      exact this
end Go.Proofs.YticfcjmlphhpgaaGreatDoor
/-
  WALKS of the reader, 9: the word behind file.
-/
namespace Go.Proofs.YticfcjmlphhpgaaGreatDoor
open Go.RowKit

theorem exec_list : wExec.toList = [101, 120, 101, 99] := by rw [ByteArray.toList_eq]; rfl
theorem data_list : wData.toList = [100, 97, 116, 97] := by rw [ByteArray.toList_eq]; rfl
/-- A node's kind is stored. -/
theorem RM.kindSet {B R : Nat} {w : World} {left lst drs : Value} {gN n cap : Nat} {pos : Nat} {list : List It} {g : Gr} (h : RM B R w left lst (.slice (some ⟨gN, 0, none⟩) n cap) drs pos list g) (k : Nat) (hk : g.nodes.length = k + 1) (z : Int) :
    RM B R (w.setCell ⟨gN, k * 3 + 1, none⟩ (.int .i64 z)) left lst (.slice (some ⟨gN, 0, none⟩) n cap) drs pos list ⟨setN g.nodes ⟨(lastN g.nodes).path, z, (lastN g.nodes).data⟩, g.dirs, g.path⟩ ∧ Below B w (w.setCell ⟨gN, k * 3 + 1, none⟩ (.int .i64 z)) ∧ KT TS w (w.setCell ⟨gN, k * 3 + 1, none⟩ (.int .i64 z)) := by
  rw [lastN_get _ k hk, setN_set _ k hk]
  exact h.node (k * 3 + 1) (.int .i64 z) _ (by rw [List.length_set]) (flat3_kind g.nodes k (by omega) z)

set_option maxRecDepth 20000 in
set_option maxHeartbeats 2000000 in
theorem takeInFile_any {B R : Nat} {w : World} {left lst nds drs : Value} {pos : Nat} {list : List It} {g : Gr} (h : RM B R w left lst nds drs pos list g) (hbd : Bd list g) (hne : g.nodes ≠ []) (s : ByteArray) :
    Calls Tryz.prog 182 #[.pointer (some ⟨R, 0, none⟩), .string s] w (TakePost B R w left pos list (takeF g .inFile s)) := by
  obtain ⟨k, hk⟩ : ∃ k, g.nodes.length = k + 1 := ⟨g.nodes.length - 1, by have := List.length_pos_iff.2 hne; omega⟩
  have hk30 := hbd.ln
  have hmf : ∀ (fn : Fn) (first cap : Array Value) (w : World), (Instr.makeFunc fn first cap).run Tryz.prog w = .ok (.func fn first cap) w := fun _ _ _ _ => rfl
  obtain ⟨gN, capN, rfl, hcN⟩ := own_form h.nd (by omega)
  rw [hk] at hcN
  have hk' : k < g.nodes.length := by omega
  have hBw : B ≤ w.heap.size := by have := h.lt; have := h.BR; omega
  obtain ⟨T, hT⟩ : ∃ T, takeF g .inFile s = T := ⟨_, rfl⟩
  rw [hT]
  rw [take_inFile] at hT
  by_cases h1 : s = wExec
  · rw [if_pos h1] at hT
    subst hT
    have hb1 : (s.toList == [101, 120, 101, 99]) = true := by rw [h1, exec_list]; rfl
    have c5 : w.cell? ⟨R, 5, none⟩ = some (.slice (some ⟨gN, 0, none⟩) (k + 1) capN) := by simp [World.cell?, h.blk, hk]
    have cN := hide (newest_any R gN (k + 1) capN w (by omega) hcN c5 (by omega))
    simp only [Nat.add_sub_cancel] at cN
    obtain ⟨f0, f1, f2⟩ := flat3_get g.nodes k hk'
    have hrow := h.nd
    have d1 : ∀ q, (w.drewN q).cell? ⟨gN, k * 3 + 1, none⟩ = some (.int .i64 g.nodes[k].kind) := fun q => (own_drewN hrow q).cellAt (k * 3 + 1) (by omega) |>.trans f1
    have z1 : ∀ q, (w.drewN q).frozen? ⟨gN, k * 3 + 1, none⟩ = false := fun q => (own_drewN hrow q).frozenAt (k * 3 + 1)
    have H := hide h
    clear h hne hrow f0 f1 f2 h1
    go_enter Tryz.func182, Tryz.ntmps182
    go_wp2_with fail
    refine cN.out.mono ?_
    rintro e w1 ⟨rfl, q, rfl⟩
    have e1 := d1 q
    have y1 := z1 q
    have hRM1 := H.out.new (drewNB w q)
    have hB1 : Below B w (w.drewN q) := (drewNB w q).mono hBw
    have hK1 : KT TS w (w.drewN q) := KT.new TS (drewNB w q)
    generalize w.drewN q = w1 at e1 y1 hRM1 hB1 hK1
    clear cN d1 z1 c5
    obtain ⟨a1, a2, a3⟩ := hRM1.kindSet k hk 2
    have hB0 := hB1.trans a2
    have hK0 := hK1.trans a3
    have hM0 := hide (a1.new (drewB _))
    clear hRM1 a1 a2 a3 hB1 hK1
    generalize hW : w1.setCell ⟨gN, k * 3 + 1, none⟩ (.int .i64 2) = W7 at hB0 hK0 hM0
    go_wp2
    skip
    clear hW e1 y1
    go_region_with (first
      | (go_at_call 81; refine (Word_any wNone _).mono ?_; rintro e u1 ⟨bx1, rfl, hx1, hu1⟩; have hM1 := hide (hM0.out.new hu1); have hI1 : IsIt u1 R (.word wNone) ⟨8, .func 111, #[], #[.pointer (some ⟨bx1, 0, none⟩)]⟩ := ⟨bx1, rfl, hx1⟩)
      | (go_at_call 81; refine (Word_any wData _).mono ?_; rintro e u2 ⟨bx2, rfl, hx2, hu2⟩; have hM2 := hide (hM1.out.new hu2); have hI1 := hI1.kept (KT.new [] hu2) (by simp); have hI2 : IsIt u2 R (.word wData) ⟨8, .func 111, #[], #[.pointer (some ⟨bx2, 0, none⟩)]⟩ := ⟨bx2, rfl, hx2⟩)
      | (go_at_call 183; refine (data_any R _).mono ?_; rintro e u3 ⟨rfl, hu3⟩; have hM3 := hide (hM2.out.new hu3); have hI1 := hI1.kept (KT.new [] hu3) (by simp); have hI2 := hI2.kept (KT.new [] hu3) (by simp); have hI3 : IsIt u3 R (.data) ⟨100, .func 185, #[.pointer (some ⟨R, 0, none⟩)], #[]⟩ := rfl)
      | (go_at_call 81; refine (Word_any wClose _).mono ?_; rintro e u4 ⟨bx4, rfl, hx4, hu4⟩; have hM4 := hide (hM3.out.new hu4); have hI1 := hI1.kept (KT.new [] hu4) (by simp); have hI2 := hI2.kept (KT.new [] hu4) (by simp); have hI3 := hI3.kept (KT.new [] hu4) (by simp); have hI4 : IsIt u4 R (.word wClose) ⟨8, .func 111, #[], #[.pointer (some ⟨bx4, 0, none⟩)]⟩ := ⟨bx4, rfl, hx4⟩)
      | (go_at_call 80; refine (Must_rm (hM4.out.new ((Below.refl _ _).alloc (Nat.le_refl _) _)) u4.heap.size [.word wNone, .word wData, .data, .word wClose] [⟨8, .func 111, #[], #[.pointer (some ⟨bx1, 0, none⟩)]⟩, ⟨8, .func 111, #[], #[.pointer (some ⟨bx2, 0, none⟩)]⟩, ⟨100, .func 185, #[.pointer (some ⟨R, 0, none⟩)], #[]⟩, ⟨8, .func 111, #[], #[.pointer (some ⟨bx4, 0, none⟩)]⟩] ⟨hI1.kept (KT.new [] ((Below.refl _ _).alloc (Nat.le_refl _) _)) (by simp), hI2.kept (KT.new [] ((Below.refl _ _).alloc (Nat.le_refl _) _)) (by simp), hI3.kept (KT.new [] ((Below.refl _ _).alloc (Nat.le_refl _) _)) (by simp), hI4.kept (KT.new [] ((Below.refl _ _).alloc (Nat.le_refl _) _)) (by simp), trivial⟩ (block_new u4 _) hM4.out.lstNew (by have := hbd.ll; omega) (by simp)).mono ?_; rintro e uz ⟨⟨r, rfl⟩, lstz, hRMz, hbz, hkz⟩))
    all_goals
      go_wp2
      go_ret
      refine ⟨rfl, lstz, _, _, hRMz, ?_, ?_⟩
      · exact ((below_ext (below_ext (below_ext (below_ext (below_ext hB0 hBw (drewB W7)) hBw hu1) hBw hu2) hBw hu3) hBw hu4).alloc (by have := hu1.size; have := hu2.size; have := hu3.size; have := hu4.size; have := (drewB W7).size; have := hB0.size; omega) _).trans hbz
      · exact ((((((hK0.trans (KT.new TS (drewB W7))).trans (KT.new TS hu1)).trans (KT.new TS hu2)).trans (KT.new TS hu3)).trans (KT.new TS hu4)).alloc _).trans hkz
  · rw [if_neg h1] at hT
    have hb1 : (s.toList == [101, 120, 101, 99]) = false := by rw [← exec_list]; exact eqB_false h1
    by_cases h2 : s = wData
    · rw [if_pos h2] at hT
      subst hT
      have hb2 : (s.toList == [100, 97, 116, 97]) = true := by rw [h2, data_list]; rfl
      have hB0 : Below B w w := Below.refl _ _
      have hK0 : KT TS w w := KT.refl _ _
      have hM0 := hide (h.new (drewB w))
      clear h h1 h2
      go_enter Tryz.func182, Tryz.ntmps182
      go_wp2
      go_region_with (first
        | (go_at_call 183; refine (data_any R _).mono ?_; rintro e u1 ⟨rfl, hu1⟩; have hM1 := hide (hM0.out.new hu1); have hI1 : IsIt u1 R (.data) ⟨100, .func 185, #[.pointer (some ⟨R, 0, none⟩)], #[]⟩ := rfl)
        | (go_at_call 81; refine (Word_any wClose _).mono ?_; rintro e u2 ⟨bx2, rfl, hx2, hu2⟩; have hM2 := hide (hM1.out.new hu2); have hI1 := hI1.kept (KT.new [] hu2) (by simp); have hI2 : IsIt u2 R (.word wClose) ⟨8, .func 111, #[], #[.pointer (some ⟨bx2, 0, none⟩)]⟩ := ⟨bx2, rfl, hx2⟩)
        | (go_at_call 80; refine (Must_rm (hM2.out.new ((Below.refl _ _).alloc (Nat.le_refl _) _)) u2.heap.size [.data, .word wClose] [⟨100, .func 185, #[.pointer (some ⟨R, 0, none⟩)], #[]⟩, ⟨8, .func 111, #[], #[.pointer (some ⟨bx2, 0, none⟩)]⟩] ⟨hI1.kept (KT.new [] ((Below.refl _ _).alloc (Nat.le_refl _) _)) (by simp), hI2.kept (KT.new [] ((Below.refl _ _).alloc (Nat.le_refl _) _)) (by simp), trivial⟩ (block_new u2 _) hM2.out.lstNew (by have := hbd.ll; omega) (by simp)).mono ?_; rintro e uz ⟨⟨r, rfl⟩, lstz, hRMz, hbz, hkz⟩))
      all_goals
        go_wp2
        go_ret
        refine ⟨rfl, lstz, _, _, hRMz, ?_, ?_⟩
        · exact ((below_ext (below_ext (below_ext hB0 hBw (drewB w)) hBw hu1) hBw hu2).alloc (by have := hu1.size; have := hu2.size; have := (drewB w).size; have := hB0.size; omega) _).trans hbz
        · exact ((((hK0.trans (KT.new TS (drewB w))).trans (KT.new TS hu1)).trans (KT.new TS hu2)).alloc _).trans hkz
    · rw [if_neg h2] at hT
      subst hT
      have hb2 : (s.toList == [100, 97, 116, 97]) = false := by rw [← data_list]; exact eqB_false h2
      clear h1 h2
      go_enter Tryz.func182, Tryz.ntmps182
      go_wp2
      go_ret
      exact ⟨rfl, Below.refl _ _⟩
end Go.Proofs.YticfcjmlphhpgaaGreatDoor
/-
  WALKS of the reader, 11: a node's kind is taken.
-/
namespace Go.Proofs.YticfcjmlphhpgaaGreatDoor
open Go.RowKit

set_option maxRecDepth 20000 in
set_option maxHeartbeats 1000000 in
theorem enter_big (base : Nat) (v : Value) (ds : List (ByteArray × ByteArray)) (path : ByteArray) (kind : Int) (data : ByteArray) (w : World) (hown : w.ownsRow base 195 2 v ds.length (flat2 ds)) (hbase : base ≤ w.heap.size) (hlen : ds.length ≤ 100000000) (hs : path.size ≤ 1000000000) :
    Calls Tryz.prog 140 #[v, .agg #[.string path, .int .i64 kind, .string data]] w fun e w' => ∃ v', e = .returned v' ∧ w'.ownsRow base 195 2 v' (enterL ds path kind).length (flat2 (enterL ds path kind)) ∧ KE 195 base w w' := by
  obtain ⟨i0, hi, hz0, hz1, hz2⟩ := info_parts Tryz.info195
  by_cases h4 : kind = 4
  · subst h4
    have hE : enterL ds path 4 = ds ++ [(prefixIn path, ⟨#[]⟩)] := by simp [enterL]
    rw [hE]
    clear hE
    have hp := hide (prefixIn_any path (w.alloc (.cells #[.string path, .int .i64 4, .string data] 42)) hs)
    generalize prefixIn path = q at hp
    go_enter Tryz.func140, Tryz.ntmps140
    go_wp2_with fail
    refine hp.out.mono ?_
    rintro e w1 ⟨rfl, rfl⟩
    clear hp
    go_wp2_with (at_builtin; refine wpList_append_own _ rfl (.tmp 8) (.tmp 13) 123 rfl base 195 i0 (.agg #[.string ⟨#[]⟩, .string ⟨#[]⟩]) 2 32 Tryz.underlying123 hi hz0 hz1 hz2 rfl (by decide) _ _ _ rfl ((hown.alloc _).alloc _) ⟨w.heap.size + 1, 0, none⟩ 1 1 [.string q, .string ⟨#[]⟩] rfl rfl (cell_two_at _ _ _ _ _ (by simp)) (fun x hx => by simp at hx; rcases hx with rfl | rfl <;> rfl) (by unfold maxLen; omega) (by omega) (by simp; omega) ?_; intro v' w3 hown3 hgrow3 hnil3)
    go_ret
    refine ⟨_, rfl, ?_, ?_⟩
    · rw [flat2_append, List.length_append]
      exact hown3
    · exact (((KE.refl 195 base w).alloc hbase _).alloc (by simp; omega) _).grown ((hown.alloc _).alloc _) hgrow3 (by simp; omega)
  · have hE : enterL ds path kind = ds := by simp [enterL, h4]
    have h4b : (kind == 4) = false := beq_eq_false_iff_ne.2 h4
    rw [hE]
    clear hE h4
    go_enter Tryz.func140, Tryz.ntmps140
    go_wp2
    go_ret
    exact ⟨_, rfl, hown.alloc _, (KE.refl 195 base w).alloc hbase _⟩

theorem RM.setDirs {B R : Nat} {w w3 : World} {left lst nds drs : Value} {pos : Nat} {list : List It} {g : Gr} (h : RM B R w left lst nds drs pos list g) (hk : KT [195] w w3) (hb : Below B w w3) (dirs' : Ds) (drs' : Value) (hown : w3.ownsRow B 195 2 drs' dirs'.length (flat2 dirs')) :
    RM B R (w3.setCell ⟨R, 6, none⟩ drs') left lst nds drs' pos list ⟨g.nodes, dirs', g.path⟩ ∧ Below B w (w3.setCell ⟨R, 6, none⟩ drs') ∧ KT TS w (w3.setCell ⟨R, 6, none⟩ drs') := by
  have hR3 := hk _ _ _ _ h.blk (by decide)
  obtain ⟨ivs, h1, h2⟩ := h.its
  have hne : ∀ {e : TypeId} {s n : Nat} {v : Value} {xs : List Value}, w3.ownsRow B e s v n xs → e ≠ 127 → v.ownBlock ≠ some R := fun ho he e => by
    obtain ⟨c, fz, hc⟩ := own_kind ho R e
    rw [hR3] at hc
    injection hc with hc
    injection hc with _ hc _
    exact he hc.symm
  have o1 := own_kt h2 hk (by decide)
  have o2 := own_kt h.nd hk (by decide)
  have hkR : KT TS w (w3.setCell ⟨R, 6, none⟩ drs') := KT.set (hk.mono (by decide)) hR3 (by decide) 6 drs'
  refine ⟨⟨block_set hR3 6 drs', h.BR, ⟨ivs, ?_, ownsRow_setCell_other o1 (hne o1 (by decide)) _⟩, ownsRow_setCell_other o2 (hne o2 (by decide)) _, ownsRow_setCell_other hown (hne hown (by decide)) _⟩, hb.setCell h.BR _, hkR⟩
  exact h1.kept hkR (by decide)
theorem kt_ke {e : TypeId} {base : Nat} {w w' : World} (h : KE e base w w') : KT [e] w w' := fun i c t f hi ht => h.block (fun e' => ht (by simp [e'])) hi
theorem file_list : wFile.toList = [102, 105, 108, 101] := by rw [ByteArray.toList_eq]; rfl
theorem link_list : wLink.toList = [108, 105, 110, 107] := by rw [ByteArray.toList_eq]; rfl
theorem dir_list : wDir.toList = [100, 105, 114] := by rw [ByteArray.toList_eq]; rfl

set_option maxRecDepth 20000 in
set_option maxHeartbeats 4000000 in
theorem takeKind_any {B R : Nat} {w : World} {left lst nds drs : Value} {pos : Nat} {list : List It} {g : Gr} (h : RM B R w left lst nds drs pos list g) (hbd : Bd list g) (hne : g.nodes ≠ []) (s : ByteArray) :
    Calls Tryz.prog 174 #[.pointer (some ⟨R, 0, none⟩), .string s] w (TakePost B R w left pos list (takeF g .kind s)) := by
  obtain ⟨k, hk⟩ : ∃ k, g.nodes.length = k + 1 := ⟨g.nodes.length - 1, by have := List.length_pos_iff.2 hne; omega⟩
  have hk30 := hbd.ln
  have hmf : ∀ (fn : Fn) (first cap : Array Value) (w : World), (Instr.makeFunc fn first cap).run Tryz.prog w = .ok (.func fn first cap) w := fun _ _ _ _ => rfl
  obtain ⟨gN, capN, rfl, hcN⟩ := own_form h.nd (by omega)
  rw [hk] at hcN
  have hk' : k < g.nodes.length := by omega
  have hBw : B ≤ w.heap.size := by have := h.lt; have := h.BR; omega
  have c5 : w.cell? ⟨R, 5, none⟩ = some (.slice (some ⟨gN, 0, none⟩) (k + 1) capN) := by simp [World.cell?, h.blk, hk]
  have cN := hide (newest_any R gN (k + 1) capN w (by omega) hcN c5 (by omega))
  simp only [Nat.add_sub_cancel] at cN
  obtain ⟨f0, f1, f2⟩ := flat3_get g.nodes k hk'
  have hrow := h.nd
  have d1 : ∀ q, (w.drewN q).cell? ⟨gN, k * 3 + 1, none⟩ = some (.int .i64 g.nodes[k].kind) := fun q => (own_drewN hrow q).cellAt (k * 3 + 1) (by omega) |>.trans f1
  have z1 : ∀ q, (w.drewN q).frozen? ⟨gN, k * 3 + 1, none⟩ = false := fun q => (own_drewN hrow q).frozenAt (k * 3 + 1)
  have H := hide h
  clear h hne hrow f0 f1 f2
  obtain ⟨T, hT⟩ : ∃ T, takeF g .kind s = T := ⟨_, rfl⟩
  rw [hT]
  rw [take_kind] at hT
  by_cases h1 : s = wFile
  · rw [if_pos h1] at hT
    subst hT
    have hb1 : (s.toList == [102, 105, 108, 101]) = true := by rw [h1, file_list]; rfl
    clear h1
    go_enter Tryz.func174, Tryz.ntmps174
    go_wp2_with fail
    refine cN.out.mono ?_
    rintro e w1 ⟨rfl, q, rfl⟩
    have e1 := d1 q
    have y1 := z1 q
    have hRM1 := H.out.new (drewNB w q)
    have hB1 : Below B w (w.drewN q) := (drewNB w q).mono hBw
    have hK1 : KT TS w (w.drewN q) := KT.new TS (drewNB w q)
    generalize w.drewN q = w1 at e1 y1 hRM1 hB1 hK1
    clear cN d1 z1 c5
    obtain ⟨a1, a2, a3⟩ := hRM1.kindSet k hk 1
    have hB0 := hB1.trans a2
    have hK0 := hK1.trans a3
    have hM0 := hide (a1.new (drewB _))
    have hMp := hide a1
    clear hRM1 a1 a2 a3 hB1 hK1
    generalize hW : w1.setCell ⟨gN, k * 3 + 1, none⟩ (.int .i64 1) = W7 at hB0 hK0 hM0 hMp
    go_wp2
    clear hW e1 y1
    go_region_with (first
      | (go_at_call 82; refine (Words_any (.func 182) _ _ _).mono ?_; rintro e u1 ⟨rfl, hu1⟩; have hM1 := hide (hM0.out.new hu1); have hI1 : IsIt u1 R (.inFile) ⟨8, .func 182, #[.pointer (some ⟨R, 0, none⟩)], #[]⟩ := rfl)
      | (go_at_call 80; refine (Must_rm (hM1.out.new ((Below.refl _ _).alloc (Nat.le_refl _) _)) u1.heap.size [.inFile] [⟨8, .func 182, #[.pointer (some ⟨R, 0, none⟩)], #[]⟩] ⟨hI1.kept (KT.new [] ((Below.refl _ _).alloc (Nat.le_refl _) _)) (by simp), trivial⟩ (block_new u1 _) hM1.out.lstNew (by have := hbd.ll; omega) (by simp)).mono ?_; rintro e uz ⟨⟨r, rfl⟩, lstz, hRMz, hbz, hkz⟩))
    all_goals
      go_wp2
      go_ret
      refine ⟨rfl, lstz, _, _, hRMz, ?_, ?_⟩
      · exact ((below_ext (below_ext hB0 hBw (drewB W7)) hBw hu1).alloc (by have := hu1.size; have := (drewB W7).size; have := hB0.size; omega) _).trans hbz
      · exact (((hK0.trans (KT.new TS (drewB W7))).trans (KT.new TS hu1)).alloc _).trans hkz
  · rw [if_neg h1] at hT
    have hb1 : (s.toList == [102, 105, 108, 101]) = false := by rw [← file_list]; exact eqB_false h1
    by_cases h2 : s = wLink
    · rw [if_pos h2] at hT
      subst hT
      have hb2 : (s.toList == [108, 105, 110, 107]) = true := by rw [h2, link_list]; rfl
      clear h1 h2
      go_enter Tryz.func174, Tryz.ntmps174
      go_wp2_with fail
      refine cN.out.mono ?_
      rintro e w1 ⟨rfl, q, rfl⟩
      have e1 := d1 q
      have y1 := z1 q
      have hRM1 := H.out.new (drewNB w q)
      have hB1 : Below B w (w.drewN q) := (drewNB w q).mono hBw
      have hK1 : KT TS w (w.drewN q) := KT.new TS (drewNB w q)
      generalize w.drewN q = w1 at e1 y1 hRM1 hB1 hK1
      clear cN d1 z1 c5
      obtain ⟨a1, a2, a3⟩ := hRM1.kindSet k hk 3
      have hB0 := hB1.trans a2
      have hK0 := hK1.trans a3
      have hM0 := hide (a1.new (drewB _))
      have hMp := hide a1
      clear hRM1 a1 a2 a3 hB1 hK1
      generalize hW : w1.setCell ⟨gN, k * 3 + 1, none⟩ (.int .i64 3) = W7 at hB0 hK0 hM0 hMp
      go_wp2
      clear hW e1 y1
      go_region_with (first
        | (go_at_call 81; refine (Word_any wTo _).mono ?_; rintro e u1 ⟨bx1, rfl, hx1, hu1⟩; have hM1 := hide (hM0.out.new hu1); have hI1 : IsIt u1 R (.word wTo) ⟨8, .func 111, #[], #[.pointer (some ⟨bx1, 0, none⟩)]⟩ := ⟨bx1, rfl, hx1⟩)
        | (go_at_call 183; refine (data_any R _).mono ?_; rintro e u2 ⟨rfl, hu2⟩; have hM2 := hide (hM1.out.new hu2); have hI1 := hI1.kept (KT.new [] hu2) (by simp); have hI2 : IsIt u2 R (.data) ⟨100, .func 185, #[.pointer (some ⟨R, 0, none⟩)], #[]⟩ := rfl)
        | (go_at_call 81; refine (Word_any wClose _).mono ?_; rintro e u3 ⟨bx3, rfl, hx3, hu3⟩; have hM3 := hide (hM2.out.new hu3); have hI1 := hI1.kept (KT.new [] hu3) (by simp); have hI2 := hI2.kept (KT.new [] hu3) (by simp); have hI3 : IsIt u3 R (.word wClose) ⟨8, .func 111, #[], #[.pointer (some ⟨bx3, 0, none⟩)]⟩ := ⟨bx3, rfl, hx3⟩)
        | (go_at_call 80; refine (Must_rm (hM3.out.new ((Below.refl _ _).alloc (Nat.le_refl _) _)) u3.heap.size [.word wTo, .data, .word wClose] [⟨8, .func 111, #[], #[.pointer (some ⟨bx1, 0, none⟩)]⟩, ⟨100, .func 185, #[.pointer (some ⟨R, 0, none⟩)], #[]⟩, ⟨8, .func 111, #[], #[.pointer (some ⟨bx3, 0, none⟩)]⟩] ⟨hI1.kept (KT.new [] ((Below.refl _ _).alloc (Nat.le_refl _) _)) (by simp), hI2.kept (KT.new [] ((Below.refl _ _).alloc (Nat.le_refl _) _)) (by simp), hI3.kept (KT.new [] ((Below.refl _ _).alloc (Nat.le_refl _) _)) (by simp), trivial⟩ (block_new u3 _) hM3.out.lstNew (by have := hbd.ll; omega) (by simp)).mono ?_; rintro e uz ⟨⟨r, rfl⟩, lstz, hRMz, hbz, hkz⟩))
      all_goals
        go_wp2
        go_ret
        refine ⟨rfl, lstz, _, _, hRMz, ?_, ?_⟩
        · exact ((below_ext (below_ext (below_ext (below_ext hB0 hBw (drewB W7)) hBw hu1) hBw hu2) hBw hu3).alloc (by have := hu1.size; have := hu2.size; have := hu3.size; have := (drewB W7).size; have := hB0.size; omega) _).trans hbz
        · exact (((((hK0.trans (KT.new TS (drewB W7))).trans (KT.new TS hu1)).trans (KT.new TS hu2)).trans (KT.new TS hu3)).alloc _).trans hkz
    · rw [if_neg h2] at hT
      have hb2 : (s.toList == [108, 105, 110, 107]) = false := by rw [← link_list]; exact eqB_false h2
      by_cases h3 : s = wDir
      · rw [if_pos h3] at hT
        subst hT
        have hb3 : (s.toList == [100, 105, 114]) = true := by rw [h3, dir_list]; rfl
        clear h1 h2 h3
        go_enter Tryz.func174, Tryz.ntmps174
        go_wp2_with fail
        refine cN.out.mono ?_
        rintro e w1 ⟨rfl, q, rfl⟩
        have e1 := d1 q
        have y1 := z1 q
        have hRM1 := H.out.new (drewNB w q)
        have hB1 : Below B w (w.drewN q) := (drewNB w q).mono hBw
        have hK1 : KT TS w (w.drewN q) := KT.new TS (drewNB w q)
        generalize w.drewN q = w1 at e1 y1 hRM1 hB1 hK1
        clear cN d1 z1 c5
        obtain ⟨a1, a2, a3⟩ := hRM1.kindSet k hk 4
        have hB0 := hB1.trans a2
        have hK0 := hK1.trans a3
        have hM0 := hide (a1.new (drewB _))
        have hMp := hide a1
        clear hRM1 a1 a2 a3 hB1 hK1
        generalize hW : w1.setCell ⟨gN, k * 3 + 1, none⟩ (.int .i64 4) = W7 at hB0 hK0 hM0 hMp
        go_wp2
        clear hW e1 y1
        obtain ⟨p, hp⟩ : ∃ p, (lastN g.nodes).path = p := ⟨_, rfl⟩
        obtain ⟨d, hd⟩ : ∃ d, (lastN g.nodes).data = d := ⟨_, rfl⟩
        rw [hp, hd] at hMp
        rw [hp, hd]
        have hps : p.size ≤ 100000000 := by
          rw [← hp, lastN_get _ k hk]
          exact hbd.np _ (List.getElem_mem _)
        have hlN : (setN g.nodes ⟨p, 4, d⟩).length = k + 1 := by rw [setN_set _ k hk, List.length_set, hk]
        obtain ⟨e0, e1, e2⟩ := flat3_get (setN g.nodes ⟨p, 4, d⟩) k (by omega)
        have hget : (setN g.nodes ⟨p, 4, d⟩)[k]'(by omega) = ⟨p, 4, d⟩ := by simp [setN_set _ k hk]
        rw [hget] at e0 e1 e2
        have hnd : W7.ownsRow B 42 3 (.slice (some ⟨gN, 0, none⟩) g.nodes.length capN) g.nodes.length (flat3 (setN g.nodes ⟨p, 4, d⟩)) := by
          have := hMp.out.nd
          simp only [hlN] at this
          rw [← hk] at this
          exact this
        have n0 : W7.cell? ⟨gN, k * 3, none⟩ = some (.string p) := (hnd.cellAt (k * 3) (by omega)).trans e0
        have n1 : W7.cell? ⟨gN, k * 3 + 1, none⟩ = some (.int .i64 4) := (hnd.cellAt (k * 3 + 1) (by omega)).trans e1
        have n2 : W7.cell? ⟨gN, k * 3 + 2, none⟩ = some (.string d) := (hnd.cellAt (k * 3 + 2) (by omega)).trans e2
        have c6 : W7.cell? ⟨R, 6, none⟩ = some drs := by simp [World.cell?, hMp.out.blk]
        have hMd := hide (hMp.out.new (drewB W7))
        have hR7 := hMp.out.lt
        clear e0 e1 e2 hget hM0 hMp hnd
        go_region_with (go_at_call 140; refine (enter_big B drs g.dirs p 4 d _ hMd.out.dr (by have := hMd.out.lt; have := hMd.out.BR; omega) hbd.ld (by omega)).mono ?_; rintro e w4 ⟨v4, rfl, hown4, hk4⟩; obtain ⟨a4, cap4, rfl, hc4⟩ := own_slice hown4; have hR4 := hk4.block (by decide) hMd.out.blk; have c64 : w4.cell? ⟨R, 6, none⟩ = some drs := (by simp [World.cell?, hR4]); have f64 : w4.frozen? ⟨R, 6, none⟩ = false := (by simp [World.frozen?, hR4]))
        all_goals
          obtain ⟨a1, a2, a3⟩ := hMd.out.setDirs (kt_ke hk4) hk4.bel (enterL g.dirs p 4) _ hown4
          have hE : enterL g.dirs p 4 = g.dirs ++ [(prefixIn p, ⟨#[]⟩)] := by simp [enterL]
          rw [hE] at a1 a2 a3 ⊢
          have hB9 := (below_ext hB0 hBw (drewB W7)).trans a2
          have hK9 := (hK0.trans (KT.new TS (drewB W7))).trans a3
          generalize w4.setCell ⟨R, 6, none⟩ (.slice a4 (g.dirs ++ [(prefixIn p, (⟨#[]⟩ : ByteArray))]).length cap4) = W8 at a1 hB9 hK9 ⊢
          have hM0 := hide (a1.new (drewB W8))
          clear a1 a2 a3 c64 f64 hR4 hown4 hk4 c6 n0 n1 n2
          go_wp2
          go_region_with (first
            | (go_at_call 82; refine (Words_any (.func 184) _ _ _).mono ?_; rintro e u1 ⟨rfl, hu1⟩; have hM1 := hide (hM0.out.new hu1); have hI1 : IsIt u1 R (.inDir) ⟨8, .func 184, #[.pointer (some ⟨R, 0, none⟩)], #[]⟩ := rfl)
            | (go_at_call 80; refine (Must_rm (hM1.out.new ((Below.refl _ _).alloc (Nat.le_refl _) _)) u1.heap.size [.inDir] [⟨8, .func 184, #[.pointer (some ⟨R, 0, none⟩)], #[]⟩] ⟨hI1.kept (KT.new [] ((Below.refl _ _).alloc (Nat.le_refl _) _)) (by simp), trivial⟩ (block_new u1 _) hM1.out.lstNew (by have := hbd.ll; omega) (by simp)).mono ?_; rintro e uz ⟨⟨r, rfl⟩, lstz, hRMz, hbz, hkz⟩))
          all_goals
            go_wp2
            go_ret
            subst hp
            subst hd
            refine ⟨rfl, lstz, _, _, hRMz, ?_, ?_⟩
            · exact ((below_ext (below_ext hB9 hBw (drewB W8)) hBw hu1).alloc (by have := hu1.size; have := (drewB W8).size; have := hB9.size; omega) _).trans hbz
            · exact (((hK9.trans (KT.new TS (drewB W8))).trans (KT.new TS hu1)).alloc _).trans hkz
      · rw [if_neg h3] at hT
        subst hT
        have hb3 : (s.toList == [100, 105, 114]) = false := by rw [← dir_list]; exact eqB_false h3
        clear h1 h2 h3
        go_enter Tryz.func174, Tryz.ntmps174
        go_wp2_with fail
        refine cN.out.mono ?_
        rintro e w1 ⟨rfl, q, rfl⟩
        go_wp2
        go_ret
        exact ⟨rfl, drewNB w q⟩
end Go.Proofs.YticfcjmlphhpgaaGreatDoor
