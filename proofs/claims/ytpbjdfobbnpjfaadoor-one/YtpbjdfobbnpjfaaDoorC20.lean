/-
  WALKS of the reader, 20: package nar's reader.
-/
import Derived.Test.YtpbjdfobbnpjfaaDoorC19
namespace Go.Proofs.YtpbjdfobbnpjfaaDoor
open Go.RowKit

theorem RM.kt {ts : List TypeId} {B R : Nat} {w w' : World} {left lst nds drs : Value} {pos : Nat} {list : List It} {g : Gr} (h : RM B R w left lst nds drs pos list g) (hk : KT ts w w') (h9 : ¬ 9 ∈ ts) (h81 : ¬ 61 ∈ ts) (h84 : ¬ 75 ∈ ts) (h45 : ¬ 37 ∈ ts) (h107 : ¬ 87 ∈ ts) : RM B R w' left lst nds drs pos list g := by
  obtain ⟨ivs, h1, h2⟩ := h.its
  exact ⟨hk _ _ _ _ h.blk h81, h.BR, ⟨ivs, h1.kept hk h9, own_kt h2 hk h84⟩, own_kt h.nd hk h45, own_kt h.dr hk h107⟩
theorem RdAt.kt {ts : List TypeId} {B R : Nat} {w w' : World} {rd : Rd} (h : RdAt B R w rd) (hk : KT ts w w') (h9 : ¬ 9 ∈ ts) (h81 : ¬ 61 ∈ ts) (h84 : ¬ 75 ∈ ts) (h45 : ¬ 37 ∈ ts) (h107 : ¬ 87 ∈ ts) (h5 : ¬ 5 ∈ ts) : RdAt B R w' rd := by
  cases rd with
  | ok st =>
    obtain ⟨left, lst, nds, drs, hM, hO⟩ := h
    exact ⟨left, lst, nds, drs, hM.kt hk h9 h81 h84 h45 h107, own_kt hO hk h5⟩
  | bad e p =>
    obtain ⟨⟨hBR, x0, nds, drs, path, hR⟩, hne⟩ := h
    exact ⟨⟨hBR, x0, nds, drs, path, hk _ _ _ _ hR h81⟩, hne⟩
/-- Package nar's reader. -/
def NR (B N R : Nat) (w : World) (rd : Rd) : Prop := w.heap[N]? = some (.cells #[.pointer (some ⟨R, 0, none⟩)] 44 (0, 0)) ∧ B ≤ N ∧ RdAt B R w rd

set_option maxRecDepth 20000 in
set_option maxHeartbeats 1000000 in
theorem narNew_any (w : World) : Calls Tryd.prog 9 #[] w fun e w' => ∃ N R, e = .returned (.pointer (some ⟨N, 0, none⟩)) ∧ NR w.heap.size N R w' rd0 ∧ Below w.heap.size w w' := by
  go_enter Tryd.func9, Tryd.ntmps9
  go_wp2_with fail
  refine (treeNew_any w).mono ?_
  rintro e w1 ⟨rfl, h1, hb1⟩
  go_wp2
  go_ret
  have hb2 := (Below.refl _ w1).alloc (Nat.le_refl _) (.cells #[.pointer (some ⟨w.heap.size, 0, none⟩)] 44)
  exact ⟨w1.heap.size, w.heap.size, rfl, ⟨block_new w1 _, hb1.size, h1.kt (KT.new [] hb2) (by simp) (by simp) (by simp) (by simp) (by simp) (by simp)⟩, hb1.trans (hb2.mono hb1.size)⟩
set_option maxRecDepth 20000 in
set_option maxHeartbeats 1000000 in
theorem isClosed_no (N R : Nat) (w : World) (h : w.heap[N]? = some (.cells #[.pointer (some ⟨R, 0, none⟩)] 44 (0, 0))) : Calls Tryd.prog 14 #[.pointer (some ⟨N, 0, none⟩)] w fun e w' => e = .returned (.bool false) ∧ w' = w := by
  have c0 : w.cell? ⟨N, 0, none⟩ = some (.pointer (some ⟨R, 0, none⟩)) := by simp [World.cell?, h]
  go_enter Tryd.func14, Tryd.ntmps14
  go_wp2
  go_ret
  exact ⟨rfl, rfl⟩
set_option maxRecDepth 20000 in
set_option maxHeartbeats 1000000 in
theorem narFeed_any {B N R : Nat} {w : World} {rd : Rd} {tot : Nat} (h : NR B N R w rd) (hI : RInv rd tot) (s : ByteArray) (ht : tot + s.size ≤ 50000000) (hT : Lib.Utf8Tabs 0 1 w) (hB2 : 2 ≤ B) :
    Calls Tryd.prog 10 #[.pointer (some ⟨N, 0, none⟩), .string s] w fun e w' => e = .returned (.int .i64 0) ∧ NR B N R w' (feedF rd s.data.toList) ∧ Below B w w' := by
  obtain ⟨hN, hBN, hR⟩ := h
  have c0 : w.cell? ⟨N, 0, none⟩ = some (.pointer (some ⟨R, 0, none⟩)) := by simp [World.cell?, hN]
  have cI := hide (isClosed_no N R w hN)
  have cF := hide (treeFeed_any hR hI s ht hT hB2)
  have HN := hide hN
  clear hR hI hT hN
  go_enter Tryd.func10, Tryd.ntmps10
  go_wp2_with fail
  refine cI.out.mono ?_
  rintro e w1 ⟨rfl, rfl⟩
  go_wp2_with fail
  refine cF.out.mono ?_
  rintro e w2 ⟨⟨r, rfl⟩, h2, hb2, hk2⟩
  go_wp2
  go_ret
  exact ⟨rfl, ⟨hk2 _ _ _ _ HN.out (by decide), hBN, h2⟩, hb2⟩
set_option maxRecDepth 20000 in
set_option maxHeartbeats 1000000 in
theorem narClose_any {B N R : Nat} {w : World} {rd : Rd} {tot : Nat} (h : NR B N R w rd) (hI : RInv rd tot) (ht : tot ≤ 50000000) :
    Calls Tryd.prog 11 #[.pointer (some ⟨N, 0, none⟩)] w fun e w' => (∃ v, e = .returned (.tuple #[v, .int .i64 (closeF rd).2.1, .int .i64 ((closeF rd).2.2 : Nat)]) ∧ SliceN w' v (closeF rd).1) ∧ Below B w w' := by
  obtain ⟨hN, hBN, hR⟩ := h
  have c0 : w.cell? ⟨N, 0, none⟩ = some (.pointer (some ⟨R, 0, none⟩)) := by simp [World.cell?, hN]
  have f0 : w.frozen? ⟨N, 0, none⟩ = false := by simp [World.frozen?, hN]
  have cI := hide (isClosed_no N R w hN)
  have hk := (KT.refl [44] w).set hN (by decide) 0 (.pointer none)
  have hb := (Below.refl B w).setCell (p := ⟨N, 0, none⟩) hBN (.pointer none)
  have cC := hide (treeClose_any (hR.kt hk (by decide) (by decide) (by decide) (by decide) (by decide) (by decide)) hI ht)
  have hlt := lt_of_block hN
  clear hR hI hN hk
  go_enter Tryd.func11, Tryd.ntmps11
  go_wp2_with fail
  refine cI.out.mono ?_
  rintro e w1 ⟨rfl, rfl⟩
  go_wp2_with fail
  refine cC.out.mono ?_
  rintro e w2 ⟨⟨v, rfl, hv⟩, hb2⟩
  go_wp2
  go_ret3
  exact ⟨⟨_, rfl, hv⟩, hb.trans (hb2.mono (by have := hb.size; omega))⟩

set_option maxRecDepth 20000 in
set_option maxHeartbeats 1000000 in
theorem same_any (b off cap b' off' cap' : Nat) (ns : List Nd) (w : World) (_hbl : b < w.heap.size) (_hbl' : b' < w.heap.size) (hN : NodesAt w b off ns) (hN' : NodesAt w b' off' ns) (hln : ns.length ≤ 1000000) (hpos : 0 < ns.length) :
    Calls Tryd.prog 6 #[.slice (some ⟨b, off, none⟩) ns.length cap, .slice (some ⟨b', off', none⟩) ns.length cap'] w fun e w' => e = .returned (.bool true) ∧ Below w.heap.size w w' := by
  have HN := hide hN
  have HN' := hide hN'
  clear hN hN'
  go_enter Tryd.func6, Tryd.ntmps6
  go_wp2
  go_loopw [5, 13] (fun _ i w1 => ∃ j n : Nat, j ≤ ns.length ∧ i = .int .i64 j ∧ Hid (w1 = w.drewN n)) (fun _ i _ => ns.length - (intOf i).toNat)
  case atStart => exact ⟨0, 0, by omega, rfl, rfl⟩
  case round =>
    obtain ⟨j, n, hj, rfl, HW⟩ := hrel
    have hcl : ∀ a, wr.cell? a = w.cell? a := fun a => by rw [HW.out]; simp
    by_cases hlt : j < ns.length
    · obtain ⟨c0, c1, c2⟩ := HN.out j hlt
      obtain ⟨d0, d1, d2⟩ := HN'.out j hlt
      rw [← hcl] at c0 c1 c2 d0 d1 d2
      generalize ns[j] = y at c0 c1 c2 d0 d1 d2
      obtain ⟨yp, yk, yd⟩ := y
      simp only at c0 c1 c2 d0 d1 d2
      have hltz : (j : Int) < ns.length := by omega
      clear hcl
      go_wp2
      go_quiet (fail)
      go_wp2
      go_roundw
      case rel => exact ⟨j + 1, n + nq, by omega, by go_num, by show _ = _; rw [HW.out, World.drewN_drewN]⟩
      case measure => simp [intOf]; omega
    · clear hcl
      go_wp2
      go_ret
      exact ⟨rfl, by rw [HW.out]; exact below_drewN (Below.refl _ _) n⟩

set_option maxRecDepth 20000 in
set_option maxHeartbeats 400000 in
theorem same_nil (a a' : Option Addr) (cap cap' : Nat) (w : World) : Calls Tryd.prog 6 #[.slice a 0 cap, .slice a' 0 cap'] w fun e w' => e = .returned (.bool true) ∧ Below w.heap.size w w' := by
  go_enter Tryd.func6, Tryd.ntmps6
  go_wp2
  refine wp_loop_rounds 1 ?_
  rw [rounds_succ]
  go_wp2
  go_ret
  exact ⟨rfl, Below.refl _ _⟩


end Go.Proofs.YtpbjdfobbnpjfaaDoor
