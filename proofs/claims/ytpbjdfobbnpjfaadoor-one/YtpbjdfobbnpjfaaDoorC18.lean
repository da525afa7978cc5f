/-
  WALKS of the reader, 18: Read.
-/
import Derived.Test.YtpbjdfobbnpjfaaDoorC17
namespace Go.Proofs.YtpbjdfobbnpjfaaDoor
open Go.RowKit

/-- A reader that has failed, whatever is left. -/
def RBadL (B R : Nat) (w : World) (e : Int) (p : Nat) : Prop := B ≤ R ∧ ∃ x0 nds drs path, w.heap[R]? = some (.cells #[x0, .int .i64 0, .slice none 0 0, .int .i64 e, .int .i64 p, nds, drs, .string path] 61 (0, 0))
/-- A reader between two pieces. -/
def RdAt (B R : Nat) (w : World) : Rd → Prop
  | .ok st => ∃ left lst nds drs, RM B R w left lst nds drs st.pos st.list st.gr ∧ w.ownsRow B 5 1 left st.left.length (cellsOf st.left)
  | .bad e p => RBadL B R w e p ∧ (e == 0) = false
def RInv : Rd → Nat → Prop
  | .ok st, tot => Inv st tot
  | .bad _ _, _ => True
theorem stepF_ne {st : St} {e : Int} {p : Nat} (h : stepF st = .fail e p) : (e == 0) = false := by
  obtain ⟨l, pos, list, g⟩ := st
  cases list with
  | nil =>
    simp only [stepF] at h
    split at h
    · cases h
    · injection h with h _; subst h; rfl
  | cons i r =>
    simp only [stepF] at h
    cases hc : cutF l i.most with
    | wait => rw [hc] at h; cases h
    | bad er =>
      rw [hc] at h
      simp only at h
      injection h with h _
      subst h
      rcases cutF_bad hc with rfl | rfl <;> rfl
    | ok s rest n =>
      rw [hc] at h
      simp only at h
      cases ht : takeF g i ⟨s.toArray⟩ with
      | err er => rw [ht] at h; simp only at h; injection h with h _; subst h; exact takeF_err ht
      | more g' push => rw [ht] at h; cases h
theorem runS_inv : ∀ (f : Nat) (st : St) (tot : Nat), Inv st tot → RInv (runS f st) tot
  | 0, _, _, h => h
  | f + 1, st, tot, h => by
    simp only [runS]
    cases hs : stepF st with
    | stop => exact h
    | fail e p => trivial
    | go st' => exact runS_inv f st' tot (h.step hs)
theorem feedF_inv {rd : Rd} {tot : Nat} (h : RInv rd tot) (s : Bs) : RInv (feedF rd s) (tot + s.length) := by
  cases rd with
  | bad e p => trivial
  | ok st => exact runS_inv _ _ _ (Inv.add h s)
def leftLen (R : Nat) (w : World) : Nat := match w.cell? ⟨R, 0, none⟩ with
  | some (.slice _ n _) => n
  | _ => 0
theorem RM.leftLen {B R : Nat} {w : World} {left lst nds drs : Value} {pos : Nat} {list : List It} {g : Gr} (h : RM B R w left lst nds drs pos list g) {l : Bs} (hL : LeftAt w left l) : leftLen R w = l.length := by
  obtain ⟨a, cap, rfl, _⟩ := hL
  have c0 : w.cell? ⟨R, 0, none⟩ = some (.slice a l.length cap) := by simp [World.cell?, h.blk]
  unfold Go.Proofs.YtpbjdfobbnpjfaaDoor.leftLen
  rw [c0]
def ReadPost (B R : Nat) (w : World) (rd : Rd) (e : Ending) (w' : World) : Prop :=
  e = .returned (.int .i64 (match rd with | .ok _ => 0 | .bad er _ => er)) ∧ RdAt B R w' rd ∧ Below B w w' ∧ KT TS5 w w'

set_option maxRecDepth 20000 in
set_option maxHeartbeats 2000000 in
theorem Read_any {B R : Nat} {w : World} {rd : Rd} {tot : Nat} (h : RdAt B R w rd) (hI : RInv rd tot) (s : ByteArray) (ht : tot + s.size ≤ 50000000) (hT : Lib.Utf8Tabs 0 1 w) (hB2 : 2 ≤ B) :
    Calls Tryd.prog 21 #[.pointer (some ⟨R, 0, none⟩), .string s] w (ReadPost B R w (feedF rd s.data.toList)) := by
  cases rd with
  | bad e p =>
    obtain ⟨⟨hBR, x0, nds, drs, path, hR⟩, hne⟩ := h
    have c3 : w.cell? ⟨R, 3, none⟩ = some (.int .i64 e) := by simp [World.cell?, hR]
    have HR : Hid (ReadPost B R w (feedF (.bad e p) s.data.toList) (.returned (.int .i64 e)) w) := ⟨rfl, ⟨⟨hBR, x0, nds, drs, path, hR⟩, hne⟩, Below.refl _ _, KT.refl _ _⟩
    clear hR
    go_enter Tryd.func21, Tryd.ntmps21
    go_wp2
    go_ret
    exact HR.out
  | ok st =>
    obtain ⟨left, lst, nds, drs, hM, hO⟩ := h
    have hIst : Inv st tot := hI
    have hsum := hIst.sum
    have c3 : w.cell? ⟨R, 3, none⟩ = some (.int .i64 0) := by simp [World.cell?, hM.blk]
    have hBw : B ≤ w.heap.size := by have := hM.lt; have := hM.BR; omega
    have hBR := hM.BR
    have cA := hide (Add_any hM st.left hO s (by omega) (by omega))
    have hsl : s.data.toList.length = s.size := by simp
    obtain ⟨RR, hRR⟩ : ∃ RR, feedF (.ok st) s.data.toList = RR := ⟨_, rfl⟩
    rw [hRR]
    have HRR : Hid (runS (st.add s.data.toList).left.length (st.add s.data.toList) = RR) := by
      show _ = _
      rw [← hRR]
      exact runS_fuel _ _ _ (Nat.le_refl _) (by simp [St.add])
    have HI := hide (Inv.add hIst s.data.toList)
    have HT := hide hT
    clear hM hO hRR hI hIst hT
    go_enter Tryd.func21, Tryd.ntmps21
    go_wp2_with fail
    refine cA.out.mono ?_
    rintro e w1 ⟨⟨r, rfl⟩, left1, hM1, hL1, hb1, hk1⟩
    clear cA c3
    go_wp2
    go_loopw [19, 20] (fun _ _ w2 => ∃ (st2 : St) (left2 lst2 nds2 drs2 : Value), Hid (RM B R w2 left2 lst2 nds2 drs2 st2.pos st2.list st2.gr) ∧ Hid (LeftAt w2 left2 st2.left) ∧ Hid (Inv st2 (tot + s.data.toList.length)) ∧ Hid (runS st2.left.length st2 = RR) ∧ Hid (Below B w w2) ∧ Hid (KT TS5 w w2)) (fun _ _ w2 => leftLen R w2)
    case atStart => exact ⟨st.add s.data.toList, left1, lst, nds, drs, hide hM1, hide hL1, HI, HRR, hide hb1, hide hk1⟩
    case round =>
      obtain ⟨st2, left2, lst2, nds2, drs2, hM2, hL2, hI2, hR2, hb2, hk2⟩ := hrel
      have hlen2 := hM2.out.leftLen hL2.out
      have cS := step_any hM2.out hL2.out hI2.out (by omega) (tabs_B hB2 HT.out hb2.out) hB2
      cases hst : stepF st2 with
      | stop =>
        rw [hst] at cS
        have CS := hide cS
        clear cS
        have hRR2 : RR = .ok st2 := by
          rw [← hR2.out]
          cases hl : st2.left.length with
          | zero => rfl
          | succ k => simp only [runS, hst]
        go_wp2_with fail
        refine CS.out.mono ?_
        rintro e w3 ⟨rfl, hb3⟩
        have hM3 := hide (hM2.out.new hb3)
        have hL3 := hide (hL2.out.kept (KT.new [] hb3) (by simp))
        go_wp2_with fail
        refine (Trim_any _ _ _ _ _ _ _ _ hM3.out.blk hBR st2.left hL3.out (by have := hI2.out.sum; omega)).mono ?_
        rintro e w4 ⟨⟨r4, rfl⟩, v, w5, rfl, hO5, hk5, hb5⟩
        obtain ⟨a1, a2, a3⟩ := hM3.out.setLeft hk5 hb5 v
        have c3 : (w5.setCell ⟨R, 0, none⟩ v).cell? ⟨R, 3, none⟩ = some (.int .i64 0) := by simp [World.cell?, a1.blk]
        have hO6 : (w5.setCell ⟨R, 0, none⟩ v).ownsRow B 5 1 v st2.left.length (cellsOf st2.left) := ownsRow_setCell_other hO5 (fun e => by
          obtain ⟨c, fz, hc⟩ := own_kind hO5 R e
          have hR5 := hk5 _ _ _ _ hM3.out.blk (by decide)
          rw [hR5] at hc
          injection hc with hc
          injection hc with _ hc _
          exact absurd hc (by decide)) _
        have HE : Hid (ReadPost B R w RR (.returned (.int .i64 0)) (w5.setCell ⟨R, 0, none⟩ v)) := by
          show ReadPost _ _ _ _ _ _
          rw [hRR2]
          exact ⟨rfl, ⟨_, _, _, _, a1, hO6⟩, (below_ext hb2.out hBw hb3).trans a2, (hk2.out.trans (KT.new TS5 hb3)).trans a3⟩
        clear a1 a2 a3 hO6 hRR2
        go_wp2
        go_ret
        exact HE.out
      | fail er p =>
        rw [hst] at cS
        have CS := hide cS
        clear cS
        have hne := stepF_ne hst
        have hRR2 : RR = .bad er p := by
          rw [← hR2.out]
          cases hl : st2.left.length with
          | zero =>
            exfalso
            have h0 : st2.left = [] := List.eq_nil_of_length_eq_zero hl
            unfold stepF at hst
            split at hst
            · rw [if_pos h0] at hst; cases hst
            · rw [h0] at hst; simp [cutF] at hst
          | succ k => simp only [runS, hst]
        go_wp2_with fail
        refine CS.out.mono ?_
        rintro e w3 ⟨rfl, ⟨hBR3, nds3, drs3, path3, hR3⟩, hb3, hk3⟩
        go_wp2_with fail
        refine (Trim_any _ _ _ _ _ _ _ _ hR3 hBR [] ⟨none, 0, rfl, Nat.le_refl _, fun _ => rfl, (fun x h => by cases h), fun h => by simp at h⟩ (by simp)).mono ?_
        rintro e w4 ⟨⟨r4, rfl⟩, v, w5, rfl, hO5, hk5, hb5⟩
        have hR5 := hk5 _ _ _ _ hR3 (by decide)
        have hR6 := block_set hR5 0 v
        have c3 : (w5.setCell ⟨R, 0, none⟩ v).cell? ⟨R, 3, none⟩ = some (.int .i64 er) := by simp [World.cell?, hR6]
        have HE : Hid (ReadPost B R w RR (.returned (.int .i64 er)) (w5.setCell ⟨R, 0, none⟩ v)) := by
          show ReadPost _ _ _ _ _ _
          rw [hRR2]
          exact ⟨rfl, ⟨⟨hBR, v, nds3, drs3, path3, hR6⟩, hne⟩, ((hb2.out.trans hb3).trans hb5).setCell hBR _, ((hk2.out.trans (hk3.mono ts5)).trans (hk5.mono (by decide))).set hR5 (by decide) _ _⟩
        clear hRR2 hR6
        go_wp2
        go_ret
        exact HE.out
      | go st3 =>
        rw [hst] at cS
        have CS := hide cS
        clear cS
        have hgo := stepF_go hst
        have hI3 := hide (hI2.out.step hst)
        have hR3 : Hid (runS st3.left.length st3 = RR) := by
          show _ = _
          rw [← hR2.out]
          obtain ⟨k, hk⟩ : ∃ k, st2.left.length = k + 1 := ⟨st2.left.length - 1, by omega⟩
          rw [hk]
          simp only [runS, hst]
          exact runS_fuel _ _ _ (Nat.le_refl _) (by omega)
        go_wp2_with fail
        refine CS.out.mono ?_
        rintro e w3 ⟨rfl, left3, lst3, nds3, drs3, hM3, hL3, hb3, hk3⟩
        have hlen3 := hM3.leftLen hL3
        go_wp2
        go_roundw
        case rel => exact ⟨st3, left3, lst3, nds3, drs3, hide hM3, hide hL3, hI3, hR3, hide (hb2.out.trans hb3), hide (hk2.out.trans (hk3.mono ts5))⟩
        case measure => rw [hlen3, hlen2]; omega
end Go.Proofs.YtpbjdfobbnpjfaaDoor
