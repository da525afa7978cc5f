/-
  WALKS of the reader, 14: step.
-/
import Derived.Test.YtpbjdfobbnpjfaaDoorC13
import Derived.Test.YtpbjdfobbnpjfaaDoorC11
namespace Go.Proofs.YtpbjdfobbnpjfaaDoor
open Go.RowKit

def StepPost (B R : Nat) (w : World) (r : Out) (e : Ending) (w' : World) : Prop := match r with
  | .stop => e = .returned (.bool false) ∧ Below w.heap.size w w'
  | .fail er p => e = .returned (.bool false) ∧ RBad B R w' er p ∧ Below B w w' ∧ KT TS w w'
  | .go st' => e = .returned (.bool true) ∧ ∃ left' lst' nds' drs', RM B R w' left' lst' nds' drs' st'.pos st'.list st'.gr ∧ LeftAt w' left' st'.left ∧ Below B w w' ∧ KT TS w w'

set_option maxRecDepth 20000 in
set_option maxHeartbeats 2000000 in
theorem step_nil {B R : Nat} {w : World} {left lst nds drs : Value} {pos : Nat} {l : Bs} {g : Gr} (h : RM B R w left lst nds drs pos [] g) (hL : LeftAt w left l) (hl : l.length ≤ 100000000) :
    Calls Tryd.prog 35 #[.pointer (some ⟨R, 0, none⟩)] w (StepPost B R w (stepF ⟨l, pos, [], g⟩)) := by
  obtain ⟨T, hT⟩ : ∃ T, stepF ⟨l, pos, [], g⟩ = T := ⟨_, rfl⟩
  rw [hT]
  simp only [stepF] at hT
  obtain ⟨a, cap, rfl, hc, _, _, _⟩ := hL
  obtain ⟨ivs, h1, h2⟩ := h.its
  obtain ⟨aL, capL, hlst, _⟩ := own_slice h2
  have hlst' : lst = .slice aL 0 capL := hlst
  clear hlst
  subst hlst'
  have c0 : w.cell? ⟨R, 0, none⟩ = some (.slice a l.length cap) := by simp [World.cell?, h.blk]
  have c1 : w.cell? ⟨R, 1, none⟩ = some (.int .i64 pos) := by simp [World.cell?, h.blk]
  have c2 : w.cell? ⟨R, 2, none⟩ = some (.slice aL 0 capL) := by simp [World.cell?, h.blk]
  have H := hide h
  have hBw : B ≤ w.heap.size := by have := h.lt; have := h.BR; omega
  clear h h1 h2
  have hP := hide (fun q => Place_any R pos (w.drewN q) (by simp; exact c1))
  have hF := hide (fun q => Left_any R a l.length cap (w.drewN q) (by simp; exact c0))
  by_cases h0 : l = []
  · rw [if_pos h0] at hT
    subst hT
    have h0l : ¬ (0 : Int) < l.length := by rw [h0]; simp
    go_enter Tryd.func35, Tryd.ntmps35
    go_wp2
    go_quiet ((go_at_call 37; exact Calls.quiet_of_same (hP.out _)))
    go_wp2_with fail
    refine (hF.out _).mono ?_
    rintro e w1 ⟨rfl, rfl⟩
    go_wp2
    go_ret
    exact ⟨rfl, drewNB w nq⟩
  · rw [if_neg h0] at hT
    subst hT
    have h0l : (0 : Int) < l.length := by have := List.length_pos_iff.2 h0; omega
    go_enter Tryd.func35, Tryd.ntmps35
    go_wp2
    go_quiet ((go_at_call 37; exact Calls.quiet_of_same (hP.out _)))
    have hRM1 := hide (H.out.new (drewNB w nq))
    go_wp2_with fail
    refine (hF.out _).mono ?_
    rintro e w1 ⟨rfl, rfl⟩
    go_wp2_with fail
    refine (fail_any B R _ _ _ _ _ _ _ _ _ hRM1.out.blk hRM1.out.BR 10 pos).mono ?_
    rintro e w2 ⟨⟨r, rfl⟩, hbad, hb2, hk2⟩
    go_wp2
    go_ret
    exact ⟨rfl, hbad, ((drewNB w nq).mono hBw).trans hb2, (KT.new TS (drewNB w nq)).trans hk2⟩

theorem cutF_bad {l : Bs} {m : Nat} {e : Int} (h : cutF l m = .bad e) : e = 3 ∨ e = 4 := by
  unfold cutF at h
  split at h
  · cases h
  · split at h
    · injection h with h; exact .inl h.symm
    · split at h
      · cases h
      · split at h
        · cases h
        · injection h with h; exact .inr h.symm
theorem takeF_err {g : Gr} {i : It} {s : ByteArray} {e : Int} (h : takeF g i s = .err e) : (e == 0) = false := by
  have key : e = 5 ∨ e = 6 ∨ e = 7 ∨ e = 8 ∨ e = 9 := by
    cases i with
    | word w => rw [take_word] at h; split at h <;> first | (cases h; done) | (injection h with h; omega)
    | bracket =>
      rw [take_bracket] at h
      split at h
      · split at h
        · injection h with h; omega
        · split at h <;> first | (cases h; done) | (injection h with h; omega)
      · injection h with h; omega
    | kind =>
      rw [take_kind] at h
      split at h
      · cases h
      · split at h
        · cases h
        · split at h <;> first | (cases h; done) | (injection h with h; omega)
    | inFile =>
      rw [take_inFile] at h
      split at h
      · cases h
      · split at h <;> first | (cases h; done) | (injection h with h; omega)
    | inDir =>
      rw [take_inDir] at h
      split at h
      · cases h
      · split at h <;> first | (cases h; done) | (injection h with h; omega)
    | name =>
      rw [take_name] at h
      split at h
      · injection h with h; omega
      · split at h <;> first | (cases h; done) | (injection h with h; omega)
    | data => rw [take_data] at h; split at h <;> first | (cases h; done) | (injection h with h; omega)
  rw [beq_eq_false_iff_ne]
  omega
theorem two_cells {w : World} {b : Nat} {x y : Value} {t : TypeId} (h : w.heap[b]? = some (.cells #[x, y] t (0, 0))) : w.cell? ⟨b, 0, none⟩ = some x ∧ w.cell? ⟨b, 1, none⟩ = some y := by simp [World.cell?, h]
theorem tabs_B {B : Nat} {w w' : World} (hB : 2 ≤ B) (h : Lib.Utf8Tabs 0 1 w) (hb : Below B w w') : Lib.Utf8Tabs 0 1 w' :=
  ⟨fun c hc => (hb.cell (p := ⟨0, c, none⟩) (by show 0 < B; omega)).trans (h.1 c hc), fun i hi => ⟨(hb.cell (p := ⟨1, 2 * i, none⟩) (by show 1 < B; omega)).trans (h.2 i hi).1, (hb.cell (p := ⟨1, 2 * i + 1, none⟩) (by show 1 < B; omega)).trans (h.2 i hi).2⟩⟩
/-- What the taking of a string by the next item must say. -/
def TakeSaid (B R : Nat) (i : It) (r : List It) (g : Gr) (k : FuncId) (args : ByteArray → Array Value) : Prop :=
  ∀ (w : World) (left lst nds drs : Value) (pos : Nat) (s : ByteArray), s.size ≤ 100 → Lib.Utf8Tabs 0 1 w → RM B R w left lst nds drs pos r g → (∃ x, IsIt w R i x ∧ x.fn = .func k) → Calls Tryd.prog k (args s) w (TakePost B R w left pos r (takeF g i s))
set_option maxRecDepth 20000 in
set_option maxHeartbeats 4000000 in
theorem step_method {B R : Nat} {w : World} {left lst nds drs : Value} {pos : Nat} {l : Bs} {i : It} {r : List It} {g : Gr} (h : RM B R w left lst nds drs pos (i :: r) g) (hL : LeftAt w left l) (hl : l.length ≤ 100000000) (hp : pos ≤ 100000000) (hr : r.length ≤ 100000000) (hT : Lib.Utf8Tabs 0 1 w) (hB2 : 2 ≤ B)
    (k : FuncId) (hent : ∀ args w, (callFunc k args).run Tryd.prog w = .ok (.enter k args) w) (hx : ∀ w' x, IsIt w' R i x → x = ⟨i.most, .func k, #[.pointer (some ⟨R, 0, none⟩)], #[]⟩) (hsaid : TakeSaid B R i r g k (fun s => #[.pointer (some ⟨R, 0, none⟩), .string s])) :
    Calls Tryd.prog 35 #[.pointer (some ⟨R, 0, none⟩)] w (StepPost B R w (stepF ⟨l, pos, i :: r, g⟩)) := by
  obtain ⟨T, hTT⟩ : ∃ T, stepF ⟨l, pos, i :: r, g⟩ = T := ⟨_, rfl⟩
  rw [hTT]
  simp only [stepF] at hTT
  obtain ⟨ivs, h1, h2⟩ := h.its
  obtain ⟨gL, capL, rfl, hcL⟩ := own_form h2 (by simp)
  cases ivs with
  | nil => exact h1.elim
  | cons x y =>
    have hy := h1.2.len
    have hxe := hx w x h1.1
    have hmost : i.most ≤ 100 := by cases i <;> simp [It.most]
    have hrev : (x :: y).reverse[r.length]? = some x := by rw [List.reverse_cons, List.getElem?_append_right (by simp [hy])]; simp [hy]
    obtain ⟨e0, e1⟩ := flatI_get _ _ _ hrev
    subst hxe
    have d0 : w.cell? ⟨gL, r.length * 2, none⟩ = some (.int .i64 i.most) := (h2.cellAt _ (by rw [List.length_cons]; omega)).trans e0
    have d1 : w.cell? ⟨gL, r.length * 2 + 1, none⟩ = some (.func (.func k) #[.pointer (some ⟨R, 0, none⟩)] #[]) := (h2.cellAt _ (by rw [List.length_cons]; omega)).trans e1
    have c1 : w.cell? ⟨R, 1, none⟩ = some (.int .i64 pos) := by simp [World.cell?, h.blk]
    have c2 : w.cell? ⟨R, 2, none⟩ = some (.slice (some ⟨gL, 0, none⟩) (r.length + 1) capL) := by simp [World.cell?, h.blk]
    have hBw : B ≤ w.heap.size := by have := h.lt; have := h.BR; omega
    have H := hide h
    have HL := hide hL
    have HT := hide hT
    have HS := hide hsaid
    have HI := hide h1.1
    have hcL' : r.length + 1 ≤ capL := by simpa using hcL
    clear h hL hT h1 h2 hsaid e0 e1 hrev hcL
    have hP := hide (fun q => Place_any R pos (w.drewN q) (by simp; exact c1))
    go_enter Tryd.func35, Tryd.ntmps35
    go_wp2
    go_quiet ((go_at_call 37; exact Calls.quiet_of_same (hP.out _)))
    have hb1 := drewNB w nq
    have H1 := hide (H.out.new hb1)
    have HL1 := hide (HL.out.kept (KT.new [] hb1) (by simp))
    have HT1 := hide (Utf8Tabs_below HT.out hb1)
    have k0 : (w.drewN nq).cell? ⟨gL, r.length * 2, none⟩ = some (.int .i64 i.most) := by simpa using d0
    have k1 : (w.drewN nq).cell? ⟨gL, r.length * 2 + 1, none⟩ = some (.func (.func k) #[.pointer (some ⟨R, 0, none⟩)] #[]) := by simpa using d1
    have k2 : (w.drewN nq).cell? ⟨R, 2, none⟩ = some (.slice (some ⟨gL, 0, none⟩) (r.length + 1) capL) := by simpa using c2
    generalize w.drewN nq = w1 at hb1 H1 HL1 HT1 k0 k1 k2 ⊢
    have HTw := HT
    clear hP H HL HT d0 d1 c1 c2
    go_wp2
    have hX := block_new w1 (.cells #[.int .i64 i.most, .func (.func k) #[.pointer (some ⟨R, 0, none⟩)] #[]] 75)
    have hb2 := (Below.refl _ w1).alloc (Nat.le_refl _) (.cells #[.int .i64 i.most, .func (.func k) #[.pointer (some ⟨R, 0, none⟩)] #[]] 75)
    have H2 := hide (H1.out.new hb2)
    have HL2 := hide (HL1.out.kept (KT.new [] hb2) (by simp))
    have HT2 := hide (Utf8Tabs_below HT1.out hb2)
    have hbw : Below w.heap.size w (w1.alloc (.cells #[.int .i64 i.most, .func (.func k) #[.pointer (some ⟨R, 0, none⟩)] #[]] 75)) := hb1.trans (hb2.mono hb1.size)
    clear H1 HL1 HT1 k0 k1 k2 hb1 hb2
    generalize w1.alloc (.cells #[.int .i64 i.most, .func (.func k) #[.pointer (some ⟨R, 0, none⟩)] #[]] 75) = W2 at hX H2 HL2 HT2 hbw ⊢
    generalize w1.heap.size = bx at hX ⊢
    obtain ⟨x0, x1⟩ := two_cells hX
    have hbd := drewB W2
    have H2d := hide (H2.out.new hbd)
    have cC := Cut_rm H2d.out l (HL2.out.kept (KT.new [] hbd) (by simp)) i.most (by omega) (by omega) hmost
    have hXd := (hbd.block _ (lt_of_block hX)).trans hX
    cases hc : cutF l i.most with
    | wait =>
      rw [hc] at cC hTT
      simp only at hTT
      subst hTT
      simp only [cutRes, CutPost] at cC
      have CC := hide cC
      clear cC
      go_region_with (go_at_call 48; refine CC.out.mono ?_; rintro e w3 ⟨rfl, hb3⟩)
      all_goals
        go_wp2
        go_ret
        exact ⟨rfl, (hbw.trans (hbd.mono hbw.size)).trans (hb3.mono (Nat.le_trans hbw.size hbd.size))⟩
    | bad er =>
      rw [hc] at cC hTT
      simp only at hTT
      subst hTT
      simp only [cutRes, CutPost] at cC
      have CC := hide cC
      clear cC
      obtain rfl | rfl := cutF_bad hc
      all_goals
        go_region_with (go_at_call 48; refine CC.out.mono ?_; rintro e w3 ⟨rfl, hb3⟩)
        all_goals
          have H3 := hide (H2d.out.new hb3)
          go_wp2_with fail
          refine (fail_any B R _ _ _ _ _ _ _ _ _ H3.out.blk H3.out.BR _ pos).mono ?_
          rintro e w4 ⟨⟨r4, rfl⟩, hbad, hb4, hk4⟩
          go_wp2
          go_ret
          exact ⟨rfl, hbad, (below_ext (below_ext (hbw.mono hBw) hBw hbd) hBw hb3).trans hb4, (((KT.new TS hbw).trans (KT.new TS hbd)).trans (KT.new TS hb3)).trans hk4⟩
    | ok s rest n =>
      rw [hc] at cC hTT
      simp only at hTT
      simp only [cutRes, CutPost] at cC
      have CC := hide cC
      clear cC
      have hcl := cutF_len hc
      have hss : (⟨s.toArray⟩ : ByteArray).size ≤ 100 := by rw [ba_size]; omega
      cases ht : takeF g i ⟨s.toArray⟩ with
      | err er =>
        rw [ht] at hTT
        simp only at hTT
        subst hTT
        have her := takeF_err ht
        go_region_with (go_at_call 48; refine CC.out.mono ?_; rintro e w3 ⟨rfl, left3, H3', HL3', hb3, hk3⟩; have H3 := hide H3'; have HL3 := hide HL3'; clear H3' HL3'; have hX3 := hk3 _ _ _ _ hXd (by decide); obtain ⟨y0, y1⟩ := two_cells hX3; have c23 : w3.cell? ⟨R, 2, none⟩ = some (.slice (some ⟨gL, 0, none⟩) (r.length + 1) capL) := (by simp [World.cell?, H3.out.blk]); have f23 : w3.frozen? ⟨R, 2, none⟩ = false := (by simp [World.frozen?, H3.out.blk]))
        all_goals
          obtain ⟨a1, a2, a3⟩ := H3.out.popList
          have hX4 := a3 _ _ _ _ hX3 (by decide)
          obtain ⟨z0, z1⟩ := two_cells hX4
          have hB4 : Below B w (w3.setCell ⟨R, 2, none⟩ (.slice (some ⟨gL, 0, none⟩) r.length capL)) := ((below_ext (hbw.mono hBw) hBw hbd).trans hb3).trans a2
          have hK4 : KT TS w (w3.setCell ⟨R, 2, none⟩ (.slice (some ⟨gL, 0, none⟩) r.length capL)) := (((KT.new TS hbw).trans (KT.new TS hbd)).trans (hk3.mono (by decide))).trans (a3.mono (by decide))
          have cS := hide (HS.out _ left3 _ nds drs (pos + n) ⟨s.toArray⟩ hss (tabs_B hB2 HTw.out hB4) a1 ⟨_, HI.out.kept hK4 (by decide), rfl⟩)
          rw [ht] at cS
          have A1 := hide a1
          clear a1 a2 a3 hX3 hX4 z0 y0
          go_wp2_with fail
          refine cS.out.mono ?_
          rintro e w5 ⟨rfl, hb5⟩
          have hR5 := (hb5.block R (lt_of_block A1.out.blk)).trans A1.out.blk
          go_wp2_with fail
          refine (fail_any B R _ _ _ _ _ _ _ _ _ hR5 H3.out.BR er pos).mono ?_
          rintro e w6 ⟨⟨r6, rfl⟩, hbad, hb6, hk6⟩
          go_wp2
          go_ret
          exact ⟨rfl, hbad, (below_ext hB4 hBw hb5).trans hb6, (hK4.trans (KT.new TS hb5)).trans hk6⟩
      | more g' push =>
        rw [ht] at hTT
        simp only at hTT
        subst hTT
        go_region_with (go_at_call 48; refine CC.out.mono ?_; rintro e w3 ⟨rfl, left3, H3', HL3', hb3, hk3⟩; have H3 := hide H3'; have HL3 := hide HL3'; clear H3' HL3'; have hX3 := hk3 _ _ _ _ hXd (by decide); obtain ⟨y0, y1⟩ := two_cells hX3; have c23 : w3.cell? ⟨R, 2, none⟩ = some (.slice (some ⟨gL, 0, none⟩) (r.length + 1) capL) := (by simp [World.cell?, H3.out.blk]); have f23 : w3.frozen? ⟨R, 2, none⟩ = false := (by simp [World.frozen?, H3.out.blk]))
        all_goals
          obtain ⟨a1, a2, a3⟩ := H3.out.popList
          have hX4 := a3 _ _ _ _ hX3 (by decide)
          obtain ⟨z0, z1⟩ := two_cells hX4
          have hB4 : Below B w (w3.setCell ⟨R, 2, none⟩ (.slice (some ⟨gL, 0, none⟩) r.length capL)) := ((below_ext (hbw.mono hBw) hBw hbd).trans hb3).trans a2
          have hK4 : KT TS w (w3.setCell ⟨R, 2, none⟩ (.slice (some ⟨gL, 0, none⟩) r.length capL)) := (((KT.new TS hbw).trans (KT.new TS hbd)).trans (hk3.mono (by decide))).trans (a3.mono (by decide))
          have cS := hide (HS.out _ left3 _ nds drs (pos + n) ⟨s.toArray⟩ hss (tabs_B hB2 HTw.out hB4) a1 ⟨_, HI.out.kept hK4 (by decide), rfl⟩)
          rw [ht] at cS
          have HL4 := hide (HL3.out.kept a3 (by decide))
          clear a1 a2 a3 hX3 hX4 z0 y0
          go_wp2_with fail
          refine cS.out.mono ?_
          rintro e w5 ⟨rfl, lst5, nds5, drs5, hRM5, hb5, hk5⟩
          go_wp2
          go_ret
          exact ⟨rfl, left3, lst5, nds5, drs5, hRM5, HL4.out.kept hk5 (by decide), hB4.trans hb5, hK4.trans hk5⟩
end Go.Proofs.YtpbjdfobbnpjfaaDoor
