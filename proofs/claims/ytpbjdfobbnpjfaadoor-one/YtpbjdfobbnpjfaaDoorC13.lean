/-
  WALKS of the reader, 13: one string more.
-/
import Derived.Test.YtpbjdfobbnpjfaaDoorC10
import Derived.Test.YtpbjdfobbnpjfaaDoorR1
namespace Go.Proofs.YtpbjdfobbnpjfaaDoor
open Go.RowKit

set_option maxRecDepth 20000 in
set_option maxHeartbeats 400000 in
theorem Place_any (R : Nat) (pos : Int) (w : World) (c1 : w.cell? ⟨R, 1, none⟩ = some (.int .i64 pos)) : Calls Tryd.prog 37 #[.pointer (some ⟨R, 0, none⟩)] w fun e w' => e = .returned (.int .i64 pos) ∧ w' = w := by
  go_enter Tryd.func37, Tryd.ntmps37
  go_wp2
  go_ret
  exact ⟨rfl, rfl⟩
set_option maxRecDepth 20000 in
set_option maxHeartbeats 400000 in
theorem Left_any (R : Nat) (a : Option Addr) (n cap : Nat) (w : World) (c0 : w.cell? ⟨R, 0, none⟩ = some (.slice a n cap)) : Calls Tryd.prog 38 #[.pointer (some ⟨R, 0, none⟩)] w fun e w' => e = .returned (.int .i64 n) ∧ w' = w := by
  go_enter Tryd.func38, Tryd.ntmps38
  go_wp2
  go_ret
  exact ⟨rfl, rfl⟩
set_option maxRecDepth 20000 in
set_option maxHeartbeats 400000 in
theorem Cut_short (R : Nat) (a : Option Addr) (n cap : Nat) (m : Int) (w : World) (c0 : w.cell? ⟨R, 0, none⟩ = some (.slice a n cap)) (hn : n < 8) : Calls Tryd.prog 48 #[.pointer (some ⟨R, 0, none⟩), .int .i64 m] w fun e w' => e = .returned (.tuple #[.string ⟨#[]⟩, .int .i64 2]) ∧ w' = w := by
  have hz : (n : Int) < 8 := by omega
  go_enter Tryd.func48, Tryd.ntmps48
  go_wp2
  go_ret2
  exact ⟨rfl, rfl⟩
/-- A reader that has failed. -/
def RBad (B R : Nat) (w : World) (e : Int) (p : Nat) : Prop := B ≤ R ∧ ∃ nds drs path, w.heap[R]? = some (.cells #[.slice none 0 0, .int .i64 0, .slice none 0 0, .int .i64 e, .int .i64 p, nds, drs, .string path] 61 (0, 0))
set_option maxRecDepth 20000 in
set_option maxHeartbeats 1000000 in
theorem fail_any (B R : Nat) (w : World) (x0 x1 x2 x3 x4 x5 x6 : Value) (path : ByteArray) (hR : w.heap[R]? = some (.cells #[x0, x1, x2, x3, x4, x5, x6, .string path] 61 (0, 0))) (hB : B ≤ R) (er : Int) (p : Nat) :
    Calls Tryd.prog 47 #[.pointer (some ⟨R, 0, none⟩), .int .i64 er, .int .i64 p] w fun e w' => (∃ r, e = .returned r) ∧ RBad B R w' er p ∧ Below B w w' ∧ KT TS w w' := by
  have c0 : w.cell? ⟨R, 0, none⟩ = some x0 := by simp [World.cell?, hR]
  have c1 : w.cell? ⟨R, 1, none⟩ = some x1 := by simp [World.cell?, hR]
  have c2 : w.cell? ⟨R, 2, none⟩ = some x2 := by simp [World.cell?, hR]
  have c3 : w.cell? ⟨R, 3, none⟩ = some x3 := by simp [World.cell?, hR]
  have c4 : w.cell? ⟨R, 4, none⟩ = some x4 := by simp [World.cell?, hR]
  have f0 : w.frozen? ⟨R, 0, none⟩ = false := by simp [World.frozen?, hR]
  have f1 : w.frozen? ⟨R, 1, none⟩ = false := by simp [World.frozen?, hR]
  have f2 : w.frozen? ⟨R, 2, none⟩ = false := by simp [World.frozen?, hR]
  have f3 : w.frozen? ⟨R, 3, none⟩ = false := by simp [World.frozen?, hR]
  have f4 : w.frozen? ⟨R, 4, none⟩ = false := by simp [World.frozen?, hR]
  go_enter Tryd.func47, Tryd.ntmps47
  go_wp2
  go_end0
  have b0 := block_set hR 0 (.slice none 0 0)
  have b1 := block_set b0 1 (.int .i64 0)
  have b2 := block_set b1 2 (.slice none 0 0)
  have b3 := block_set b2 3 (.int .i64 er)
  have b4 := block_set b3 4 (.int .i64 p)
  refine ⟨⟨_, rfl⟩, ⟨hB, x5, x6, path, b4⟩, ?_, ?_⟩
  · exact (((((Below.refl B w).setCell hB _).setCell hB _).setCell hB _).setCell hB _).setCell hB _
  · exact (((((KT.refl TS w).set hR (by decide) _ _).set b0 (by decide) _ _).set b1 (by decide) _ _).set b2 (by decide) _ _).set b3 (by decide) _ _

/-- The bytes that are left, in memory. -/
def LeftAt (w : World) (v : Value) (l : Bs) : Prop := ∃ a cap, v = .slice a l.length cap ∧ l.length ≤ cap ∧ (a = none → cap = 0) ∧ (∀ x, a = some x → x.spot = none) ∧ (0 < l.length → ∃ g o c fz, a = some ⟨g, o, none⟩ ∧ w.heap[g]? = some (.cells c 5 fz) ∧ BytesAt w g o l)
theorem LeftAt.kept {ts : List TypeId} {w w' : World} {v : Value} {l : Bs} (h : LeftAt w v l) (hk : KT ts w w') (h5 : ¬ 5 ∈ ts) : LeftAt w' v l := by
  obtain ⟨a, cap, e, hc, hz, hy, hb⟩ := h
  refine ⟨a, cap, e, hc, hz, hy, fun hl => ?_⟩
  obtain ⟨g, o, c, fz, ea, hg, hB⟩ := hb hl
  have hg' := hk _ _ _ _ hg h5
  refine ⟨g, o, c, fz, ea, hg', fun i hi => ?_⟩
  have := hB i hi
  simp only [World.cell?, hg] at this
  simp only [World.cell?, hg']
  exact this
theorem RM.setCut {B R : Nat} {w : World} {left lst nds drs : Value} {pos : Nat} {list : List It} {g : Gr} (h : RM B R w left lst nds drs pos list g) (left' : Value) (pos' : Nat) :
    RM B R ((w.setCell ⟨R, 0, none⟩ left').setCell ⟨R, 1, none⟩ (.int .i64 pos')) left' lst nds drs pos' list g ∧ Below B w ((w.setCell ⟨R, 0, none⟩ left').setCell ⟨R, 1, none⟩ (.int .i64 pos')) ∧ KT [61] w ((w.setCell ⟨R, 0, none⟩ left').setCell ⟨R, 1, none⟩ (.int .i64 pos')) := by
  have b0 := block_set h.blk 0 left'
  have hk : KT [61] w ((w.setCell ⟨R, 0, none⟩ left').setCell ⟨R, 1, none⟩ (.int .i64 pos')) := ((KT.refl [61] w).set h.blk (by decide) _ _).set b0 (by decide) _ _
  obtain ⟨ivs, h1, h2⟩ := h.its
  exact ⟨⟨block_set b0 1 _, h.BR, ⟨ivs, h1.kept hk (by decide), own_kt h2 hk (by decide)⟩, own_kt h.nd hk (by decide), own_kt h.dr hk (by decide)⟩, ((Below.refl B w).setCell h.BR _).setCell h.BR _, hk⟩
theorem RM.popList {B R : Nat} {w : World} {left nds drs : Value} {gL n cap : Nat} {pos : Nat} {i : It} {r : List It} {g : Gr} (h : RM B R w left (.slice (some ⟨gL, 0, none⟩) n cap) nds drs pos (i :: r) g) :
    RM B R (w.setCell ⟨R, 2, none⟩ (.slice (some ⟨gL, 0, none⟩) r.length cap)) left (.slice (some ⟨gL, 0, none⟩) r.length cap) nds drs pos r g ∧ Below B w (w.setCell ⟨R, 2, none⟩ (.slice (some ⟨gL, 0, none⟩) r.length cap)) ∧ KT [61] w (w.setCell ⟨R, 2, none⟩ (.slice (some ⟨gL, 0, none⟩) r.length cap)) := by
  have hk : KT [61] w (w.setCell ⟨R, 2, none⟩ (.slice (some ⟨gL, 0, none⟩) r.length cap)) := (KT.refl [61] w).set h.blk (by decide) _ _
  obtain ⟨ivs, h1, h2⟩ := h.its
  cases ivs with
  | nil => exact h1.elim
  | cons x y =>
    obtain rfl : n = (i :: r).length := by
      obtain ⟨a, c, hv, _⟩ := own_slice h2
      injection hv
    have hy := h1.2.len
    have o1 := own_take h2 (m := r.length) (by simp)
    rw [flatI_take] at o1
    have e : (x :: y).reverse.take r.length = y.reverse := by
      rw [List.reverse_cons]; exact List.take_left' (by rw [List.length_reverse, hy])
    rw [e] at o1
    exact ⟨⟨block_set h.blk 2 _, h.BR, ⟨y, h1.2.kept hk (by decide), own_kt o1 hk (by decide)⟩, own_kt h.nd hk (by decide), own_kt h.dr hk (by decide)⟩, (Below.refl B w).setCell h.BR _, hk⟩
/-- Cut, on the reader. -/
def CutPost (B R : Nat) (W : World) (lst nds drs : Value) (pos : Nat) (list : List It) (g : Gr) (r : Ct) (w' : World) : Prop := match r with
  | .ok _ rest n => ∃ left', RM B R w' left' lst nds drs (pos + n) list g ∧ LeftAt w' left' rest ∧ Below B W w' ∧ KT [61] W w'
  | _ => Below W.heap.size W w'
theorem Cut_rm {B R : Nat} {w : World} {left lst nds drs : Value} {pos : Nat} {list : List It} {g : Gr} (h : RM B R w left lst nds drs pos list g) (l : Bs) (hL : LeftAt w left l) (most : Nat) (hl : l.length ≤ 100000000) (hp : pos ≤ 100000000) (hm : most ≤ 100) :
    Calls Tryd.prog 48 #[.pointer (some ⟨R, 0, none⟩), .int .i64 most] w fun e w' => e = .returned (cutRes (cutF l most)) ∧ CutPost B R w lst nds drs pos list g (cutF l most) w' := by
  obtain ⟨a, cap, rfl, hc, hz, hy, hb⟩ := hL
  have c0 : w.cell? ⟨R, 0, none⟩ = some (.slice a l.length cap) := by simp [World.cell?, h.blk]
  have c1 : w.cell? ⟨R, 1, none⟩ = some (.int .i64 pos) := by simp [World.cell?, h.blk]
  have f0 : w.frozen? ⟨R, 0, none⟩ = false := by simp [World.frozen?, h.blk]
  have f1 : w.frozen? ⟨R, 1, none⟩ = false := by simp [World.frozen?, h.blk]
  by_cases h8 : l.length < 8
  · have e : cutF l most = .wait := by unfold cutF; rw [if_pos h8]
    rw [e]
    refine (Cut_short R a l.length cap most w c0 h8).mono ?_
    rintro e w' ⟨rfl, rfl⟩
    exact ⟨rfl, Below.refl _ _⟩
  · obtain ⟨gB, o, c, fz, rfl, hg, hB⟩ := hb (by omega)
    have hne : R ≠ gB := fun e => by
      rw [← e, h.blk] at hg
      injection hg with hg
      injection hg with _ hg _
      exact absurd hg (by decide)
    refine (Cut_any w R gB o cap most l pos c0 c1 f0 f1 hB hc (by omega) (by omega) hm hne).mono ?_
    rintro e w' ⟨rfl, q, hq⟩
    refine ⟨rfl, ?_⟩
    cases hcut : cutF l most with
    | wait => rw [hcut] at hq; simp only at hq; subst hq; exact drewNB w q
    | bad er => rw [hcut] at hq; simp only at hq; subst hq; exact drewNB w q
    | ok s rest n =>
      rw [hcut] at hq
      obtain ⟨o', cap', rfl, hB', hc'⟩ := hq
      have hq' := drewNB w q
      obtain ⟨a1, a2, a3⟩ := (h.new hq').setCut (.slice (some ⟨gB, o', none⟩) rest.length cap') (pos + n)
      have hkk := (KT.new [61] hq').trans a3
      refine ⟨_, a1, ⟨_, cap', rfl, hc', (fun h => by cases h), (fun x h => by cases h; rfl), fun _ => ⟨gB, o', c, fz, rfl, hkk _ _ _ _ hg (by decide), fun i hi => ?_⟩⟩, ((hq'.mono (by have := h.lt; have := h.BR; omega)).trans a2), hkk⟩
      have hg' := hkk _ _ _ _ hg (by decide)
      have := hB' i hi
      simp only [World.cell?, hg] at this
      simp only [World.cell?, hg']
      exact this
end Go.Proofs.YtpbjdfobbnpjfaaDoor
