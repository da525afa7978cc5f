/-
  WALKS of the reader, 15: step, where a word must come.
-/
import Derived.Test.YtpbjdfobbnpjfaaDoorC14
namespace Go.Proofs.YtpbjdfobbnpjfaaDoor
open Go.RowKit

theorem word_post {B R : Nat} {w : World} {left lst nds drs : Value} {pos : Nat} {r : List It} (sw : ByteArray) (g : Gr) (s : ByteArray) (bw : Nat) (h : RM B R w left lst nds drs pos r g) (hb : w.heap[bw]? = some (.cells #[.string sw] 9 (0, 0))) :
    Calls Tryd.prog 45 #[.string s, .pointer (some ⟨bw, 0, none⟩)] w (TakePost B R w left pos r (takeF g (.word sw) s)) := by
  refine (takeWord_any bw sw s w hb).mono ?_
  rintro e w' ⟨rfl, rfl⟩
  rw [take_word]
  by_cases hs : s = sw
  · rw [if_pos hs, if_pos hs]
    exact ⟨rfl, _, _, _, h, Below.refl _ _, KT.refl _ _⟩
  · rw [if_neg hs, if_neg hs]
    exact ⟨rfl, Below.refl _ _⟩
set_option maxRecDepth 20000 in
set_option maxHeartbeats 4000000 in
theorem step_word {B R : Nat} {w : World} {left lst nds drs : Value} {pos : Nat} {l : Bs} {sw : ByteArray} {r : List It} {g : Gr} (h : RM B R w left lst nds drs pos (.word sw :: r) g) (hL : LeftAt w left l) (hl : l.length ≤ 100000000) (hp : pos ≤ 100000000) (hr : r.length ≤ 100000000) (hT : Lib.Utf8Tabs 0 1 w) :
    Calls Tryd.prog 35 #[.pointer (some ⟨R, 0, none⟩)] w (StepPost B R w (stepF ⟨l, pos, .word sw :: r, g⟩)) := by
  obtain ⟨T, hTT⟩ : ∃ T, stepF ⟨l, pos, .word sw :: r, g⟩ = T := ⟨_, rfl⟩
  rw [hTT]
  simp only [stepF] at hTT
  rw [show (It.word sw).most = 8 from rfl] at hTT
  obtain ⟨ivs, h1, h2⟩ := h.its
  obtain ⟨gL, capL, rfl, hcL⟩ := own_form h2 (by simp)
  cases ivs with
  | nil => exact h1.elim
  | cons x y =>
    have hy := h1.2.len
    obtain ⟨bw, hxe, hbw0⟩ := h1.1
    have hent : ∀ args w, (callFunc 45 args).run Tryd.prog w = .ok (.enter 45 args) w := enters_of Tryd.func45 (by kernel_rfl) rfl
    have hmm : (It.word sw).most = 8 := rfl
    have hrev : (x :: y).reverse[r.length]? = some x := by rw [List.reverse_cons, List.getElem?_append_right (by simp [hy])]; simp [hy]
    obtain ⟨e0, e1⟩ := flatI_get _ _ _ hrev
    subst hxe
    have d0 : w.cell? ⟨gL, r.length * 2, none⟩ = some (.int .i64 8) := (h2.cellAt _ (by rw [List.length_cons]; omega)).trans e0
    have d1 : w.cell? ⟨gL, r.length * 2 + 1, none⟩ = some (.func (.func 45) #[] #[.pointer (some ⟨bw, 0, none⟩)]) := (h2.cellAt _ (by rw [List.length_cons]; omega)).trans e1
    have c1 : w.cell? ⟨R, 1, none⟩ = some (.int .i64 pos) := by simp [World.cell?, h.blk]
    have c2 : w.cell? ⟨R, 2, none⟩ = some (.slice (some ⟨gL, 0, none⟩) (r.length + 1) capL) := by simp [World.cell?, h.blk]
    have hBw : B ≤ w.heap.size := by have := h.lt; have := h.BR; omega
    have H := hide h
    have HL := hide hL
    have HT := hide hT
    have HI := hide hbw0
    have hcL' : r.length + 1 ≤ capL := by simpa using hcL
    clear h hL hT h1 h2 e0 e1 hrev hcL
    have hP := hide (fun q => Place_any R pos (w.drewN q) (by simp; exact c1))
    go_enter Tryd.func35, Tryd.ntmps35
    go_wp2
    go_quiet ((go_at_call 37; exact Calls.quiet_of_same (hP.out _)))
    have hb1 := drewNB w nq
    have H1 := hide (H.out.new hb1)
    have HL1 := hide (HL.out.kept (KT.new [] hb1) (by simp))
    have HT1 := hide (Utf8Tabs_below HT.out hb1)
    have k0 : (w.drewN nq).cell? ⟨gL, r.length * 2, none⟩ = some (.int .i64 8) := by simpa using d0
    have k1 : (w.drewN nq).cell? ⟨gL, r.length * 2 + 1, none⟩ = some (.func (.func 45) #[] #[.pointer (some ⟨bw, 0, none⟩)]) := by simpa using d1
    have k2 : (w.drewN nq).cell? ⟨R, 2, none⟩ = some (.slice (some ⟨gL, 0, none⟩) (r.length + 1) capL) := by simpa using c2
    generalize w.drewN nq = w1 at hb1 H1 HL1 HT1 k0 k1 k2 ⊢
    have HTw := HT
    clear hP H HL HT d0 d1 c1 c2
    go_wp2
    have hX := block_new w1 (.cells #[.int .i64 8, .func (.func 45) #[] #[.pointer (some ⟨bw, 0, none⟩)]] 75)
    have hb2 := (Below.refl _ w1).alloc (Nat.le_refl _) (.cells #[.int .i64 8, .func (.func 45) #[] #[.pointer (some ⟨bw, 0, none⟩)]] 75)
    have H2 := hide (H1.out.new hb2)
    have HL2 := hide (HL1.out.kept (KT.new [] hb2) (by simp))
    have HT2 := hide (Utf8Tabs_below HT1.out hb2)
    have hbw : Below w.heap.size w (w1.alloc (.cells #[.int .i64 8, .func (.func 45) #[] #[.pointer (some ⟨bw, 0, none⟩)]] 75)) := hb1.trans (hb2.mono hb1.size)
    clear H1 HL1 HT1 k0 k1 k2 hb1 hb2
    generalize w1.alloc (.cells #[.int .i64 8, .func (.func 45) #[] #[.pointer (some ⟨bw, 0, none⟩)]] 75) = W2 at hX H2 HL2 HT2 hbw ⊢
    generalize w1.heap.size = bx at hX ⊢
    obtain ⟨x0, x1⟩ := two_cells hX
    have hbd := drewB W2
    have H2d := hide (H2.out.new hbd)
    have cC := Cut_rm H2d.out l (HL2.out.kept (KT.new [] hbd) (by simp)) 8 (by omega) (by omega) (by omega)
    have hXd := (hbd.block _ (lt_of_block hX)).trans hX
    cases hc : cutF l 8 with
    | wait =>
      rw [hc] at cC hTT
      simp only at hTT
      subst hTT
      simp only [cutRes, CutPost] at cC
      have CC := hide cC
      clear cC
      go_region_with (go_at_call 48; refine CC.out.mono ?_; rintro e w3 ⟨rfl, hb3⟩)
      all_goals
        go_wp2
        go_ret
        exact ⟨rfl, (hbw.trans (hbd.mono hbw.size)).trans (hb3.mono (Nat.le_trans hbw.size hbd.size))⟩
    | bad er =>
      rw [hc] at cC hTT
      simp only at hTT
      subst hTT
      simp only [cutRes, CutPost] at cC
      have CC := hide cC
      clear cC
      obtain rfl | rfl := cutF_bad hc
      all_goals
        go_region_with (go_at_call 48; refine CC.out.mono ?_; rintro e w3 ⟨rfl, hb3⟩)
        all_goals
          have H3 := hide (H2d.out.new hb3)
          go_wp2_with fail
          refine (fail_any B R _ _ _ _ _ _ _ _ _ H3.out.blk H3.out.BR _ pos).mono ?_
          rintro e w4 ⟨⟨r4, rfl⟩, hbad, hb4, hk4⟩
          go_wp2
          go_ret
          exact ⟨rfl, hbad, (below_ext (below_ext (hbw.mono hBw) hBw hbd) hBw hb3).trans hb4, (((KT.new TS hbw).trans (KT.new TS hbd)).trans (KT.new TS hb3)).trans hk4⟩
    | ok s rest n =>
      rw [hc] at cC hTT
      simp only at hTT
      simp only [cutRes, CutPost] at cC
      have CC := hide cC
      clear cC
      have hcl := cutF_len hc
      have hss : (⟨s.toArray⟩ : ByteArray).size ≤ 100 := by rw [ba_size]; omega
      cases ht : takeF g (.word sw) ⟨s.toArray⟩ with
      | err er =>
        rw [ht] at hTT
        simp only at hTT
        subst hTT
        have her := takeF_err ht
        go_region_with (go_at_call 48; refine CC.out.mono ?_; rintro e w3 ⟨rfl, left3, H3', HL3', hb3, hk3⟩; have H3 := hide H3'; have HL3 := hide HL3'; clear H3' HL3'; have hX3 := hk3 _ _ _ _ hXd (by decide); obtain ⟨y0, y1⟩ := two_cells hX3; have c23 : w3.cell? ⟨R, 2, none⟩ = some (.slice (some ⟨gL, 0, none⟩) (r.length + 1) capL) := (by simp [World.cell?, H3.out.blk]); have f23 : w3.frozen? ⟨R, 2, none⟩ = false := (by simp [World.frozen?, H3.out.blk]))
        all_goals
          obtain ⟨a1, a2, a3⟩ := H3.out.popList
          have hX4 := a3 _ _ _ _ hX3 (by decide)
          obtain ⟨z0, z1⟩ := two_cells hX4
          have hB4 : Below B w (w3.setCell ⟨R, 2, none⟩ (.slice (some ⟨gL, 0, none⟩) r.length capL)) := ((below_ext (hbw.mono hBw) hBw hbd).trans hb3).trans a2
          have hK4 : KT TS w (w3.setCell ⟨R, 2, none⟩ (.slice (some ⟨gL, 0, none⟩) r.length capL)) := (((KT.new TS hbw).trans (KT.new TS hbd)).trans (hk3.mono (by decide))).trans (a3.mono (by decide))
          have cS := hide (word_post sw g ⟨s.toArray⟩ bw a1 (hK4 _ _ _ _ HI.out (by decide)))
          rw [ht] at cS
          have A1 := hide a1
          clear a1 a2 a3 hX3 hX4 z0 y0
          go_wp2_with fail
          refine cS.out.mono ?_
          rintro e w5 ⟨rfl, hb5⟩
          have hR5 := (hb5.block R (lt_of_block A1.out.blk)).trans A1.out.blk
          go_wp2_with fail
          refine (fail_any B R _ _ _ _ _ _ _ _ _ hR5 H3.out.BR er pos).mono ?_
          rintro e w6 ⟨⟨r6, rfl⟩, hbad, hb6, hk6⟩
          go_wp2
          go_ret
          exact ⟨rfl, hbad, (below_ext hB4 hBw hb5).trans hb6, (hK4.trans (KT.new TS hb5)).trans hk6⟩
      | more g' push =>
        rw [ht] at hTT
        simp only at hTT
        subst hTT
        go_region_with (go_at_call 48; refine CC.out.mono ?_; rintro e w3 ⟨rfl, left3, H3', HL3', hb3, hk3⟩; have H3 := hide H3'; have HL3 := hide HL3'; clear H3' HL3'; have hX3 := hk3 _ _ _ _ hXd (by decide); obtain ⟨y0, y1⟩ := two_cells hX3; have c23 : w3.cell? ⟨R, 2, none⟩ = some (.slice (some ⟨gL, 0, none⟩) (r.length + 1) capL) := (by simp [World.cell?, H3.out.blk]); have f23 : w3.frozen? ⟨R, 2, none⟩ = false := (by simp [World.frozen?, H3.out.blk]))
        all_goals
          obtain ⟨a1, a2, a3⟩ := H3.out.popList
          have hX4 := a3 _ _ _ _ hX3 (by decide)
          obtain ⟨z0, z1⟩ := two_cells hX4
          have hB4 : Below B w (w3.setCell ⟨R, 2, none⟩ (.slice (some ⟨gL, 0, none⟩) r.length capL)) := ((below_ext (hbw.mono hBw) hBw hbd).trans hb3).trans a2
          have hK4 : KT TS w (w3.setCell ⟨R, 2, none⟩ (.slice (some ⟨gL, 0, none⟩) r.length capL)) := (((KT.new TS hbw).trans (KT.new TS hbd)).trans (hk3.mono (by decide))).trans (a3.mono (by decide))
          have cS := hide (word_post sw g ⟨s.toArray⟩ bw a1 (hK4 _ _ _ _ HI.out (by decide)))
          rw [ht] at cS
          have HL4 := hide (HL3.out.kept a3 (by decide))
          clear a1 a2 a3 hX3 hX4 z0 y0
          go_wp2_with fail
          refine cS.out.mono ?_
          rintro e w5 ⟨rfl, lst5, nds5, drs5, hRM5, hb5, hk5⟩
          go_wp2
          go_ret
          exact ⟨rfl, left3, lst5, nds5, drs5, hRM5, HL4.out.kept hk5 (by decide), hB4.trans hb5, hK4.trans hk5⟩
end Go.Proofs.YtpbjdfobbnpjfaaDoor
