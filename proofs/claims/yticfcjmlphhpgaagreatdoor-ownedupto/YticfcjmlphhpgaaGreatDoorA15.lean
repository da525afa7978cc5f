import Derived.Test.YticfcjmlphhpgaaGreatDoorA12
import Derived.Test.YticfcjmlphhpgaaGreatDoorA14
import Derived.Laws.AppendOwnNone
/-
  WALKS of the reader, 16: step, whatever must come.
-/
namespace Go.Proofs.YticfcjmlphhpgaaGreatDoor
open Go.RowKit

theorem takeInDir_any {B R : Nat} {w : World} {left lst nds drs : Value} {pos : Nat} {list : List It} {g : Gr} (h : RM B R w left lst nds drs pos list g) (hbd : Bd list g) (hne : g.dirs ≠ []) (s : ByteArray) :
    Calls Tryz.prog 184 #[.pointer (some ⟨R, 0, none⟩), .string s] w (TakePost B R w left pos list (takeF g .inDir s)) := by
  by_cases hs : s = wEntry
  · subst hs; exact takeInDir_entry h hbd
  · exact takeInDir_close h hbd hne s hs
theorem Inv.bd {st : St} {tot : Nat} (h : Inv st tot) (ht : tot ≤ 50000000) {i : It} {r : List It} (hl : st.list = i :: r) : Bd r st.gr := by
  have h1 := h.sum
  have h2 := h.ll
  rw [hl, List.length_cons] at h2
  have h4 := h.ld
  have h5 := h.lp
  exact ⟨by omega, h.ln, by omega, by omega, fun n hn => by have := h.np n hn; omega, fun d hd => by have := h.dp d hd; omega⟩
/-- ONE STRING MORE. -/
theorem step_any {B R : Nat} {w : World} {left lst nds drs : Value} {st : St} {tot : Nat} (h : RM B R w left lst nds drs st.pos st.list st.gr) (hL : LeftAt w left st.left) (hI : Inv st tot) (ht : tot ≤ 50000000) (hT : Lib.Utf8Tabs 0 1 w) (hB2 : 2 ≤ B) :
    Calls Tryz.prog 137 #[.pointer (some ⟨R, 0, none⟩)] w (StepPost B R w (stepF st)) := by
  obtain ⟨l, pos, list, g⟩ := st
  have hsum := hI.sum
  simp only at h hL hsum
  cases list with
  | nil => exact step_nil h hL (by omega)
  | cons i r =>
    have hbd := hI.bd ht rfl
    obtain ⟨hN, hD⟩ := hI.head rfl
    simp only at hbd hN hD
    have hrl := hbd.ll
    cases i with
    | word sw => exact step_word h hL (by omega) (by omega) hrl hT
    | bracket => exact step_method h hL (by omega) (by omega) hrl hT hB2 158 (enters_of Tryz.func158 (by kernel_rfl) rfl) (fun _ _ hx => hx) (fun w left lst nds drs pos s _ _ hm _ => takeBracket_any hm hbd s)
    | kind => exact step_method h hL (by omega) (by omega) hrl hT hB2 174 (enters_of Tryz.func174 (by kernel_rfl) rfl) (fun _ _ hx => hx) (fun w left lst nds drs pos s _ _ hm _ => takeKind_any hm hbd (hN rfl) s)
    | inFile => exact step_method h hL (by omega) (by omega) hrl hT hB2 182 (enters_of Tryz.func182 (by kernel_rfl) rfl) (fun _ _ hx => hx) (fun w left lst nds drs pos s _ _ hm _ => takeInFile_any hm hbd (hN rfl) s)
    | inDir => exact step_method h hL (by omega) (by omega) hrl hT hB2 184 (enters_of Tryz.func184 (by kernel_rfl) rfl) (fun _ _ hx => hx) (fun w left lst nds drs pos s _ _ hm _ => takeInDir_any hm hbd (hD (.inl rfl)) s)
    | name => exact step_method h hL (by omega) (by omega) hrl hT hB2 186 (enters_of Tryz.func186 (by kernel_rfl) rfl) (fun _ _ hx => hx) (fun w left lst nds drs pos s hs hT hm _ => takeName_any hm hbd (hD (.inr rfl)) s (by omega) hT)
    | data => exact step_method h hL (by omega) (by omega) hrl hT hB2 185 (enters_of Tryz.func185 (by kernel_rfl) rfl) (fun _ _ hx => hx) (fun w left lst nds drs pos s hs _ hm _ => takeData_any hm hbd (hN rfl) s (by omega))
end Go.Proofs.YticfcjmlphhpgaaGreatDoor
/-
  WALKS of the reader, 17: bytes are added, and trimmed.
-/
namespace Go.Proofs.YticfcjmlphhpgaaGreatDoor
open Go.RowKit

def TS5 : List TypeId := [5, 127, 133, 42, 195]
theorem ts5 : ∀ t, t ∈ TS → t ∈ TS5 := by decide
theorem strCells_of (s : ByteArray) : Lib.strCells s = cellsOf s.data.toList := rfl
theorem own_left {w : World} {B : Nat} {v : Value} {l : Bs} (h : w.ownsRow B 5 1 v l.length (cellsOf l)) : LeftAt w v l := by
  rcases h.2 with ⟨rfl, h0⟩ | ⟨g, cap, cur, rfl, hg, hh, hn, hm, hc, hx⟩
  · exact ⟨none, 0, by rw [h0], by omega, fun _ => rfl, (fun x h => by cases h), fun hl => by omega⟩
  · refine ⟨_, cap, rfl, hn, (fun h => by cases h), (fun x h => by cases h; rfl), fun _ => ⟨g, 0, cur, (0, 0), rfl, hh, fun i hi => ?_⟩⟩
    have hrow : w.ownsRow B 5 1 (.slice (some ⟨g, 0, none⟩) l.length cap) l.length (cellsOf l) := h
    rw [Nat.zero_add, hrow.cellAt i (by omega)]
    simp [cellsOf, hi]
/-- A cell of R is stored: the left bytes. -/
theorem RM.setLeft {B R : Nat} {w w3 : World} {left lst nds drs : Value} {pos : Nat} {list : List It} {g : Gr} (h : RM B R w left lst nds drs pos list g) (hk : KT [5] w w3) (hb : Below B w w3) (left' : Value) :
    RM B R (w3.setCell ⟨R, 0, none⟩ left') left' lst nds drs pos list g ∧ Below B w (w3.setCell ⟨R, 0, none⟩ left') ∧ KT TS5 w (w3.setCell ⟨R, 0, none⟩ left') := by
  have hR3 := hk _ _ _ _ h.blk (by decide)
  have hk2 : KT [5, 127] w (w3.setCell ⟨R, 0, none⟩ left') := KT.set (hk.mono (by decide)) hR3 (by decide) _ _
  obtain ⟨ivs, h1, h2⟩ := h.its
  exact ⟨⟨block_set hR3 0 _, h.BR, ⟨ivs, h1.kept hk2 (by decide), own_kt h2 hk2 (by decide)⟩, own_kt h.nd hk2 (by decide), own_kt h.dr hk2 (by decide)⟩, hb.setCell h.BR _, hk2.mono (by decide)⟩

set_option maxRecDepth 20000 in
set_option maxHeartbeats 1000000 in
theorem Add_any {B R : Nat} {w : World} {left lst nds drs : Value} {pos : Nat} {list : List It} {g : Gr} (h : RM B R w left lst nds drs pos list g) (l : Bs) (hown : w.ownsRow B 5 1 left l.length (cellsOf l)) (s : ByteArray) (hl : l.length ≤ 100000000) (hs : s.size ≤ 100000000) :
    Calls Tryz.prog 136 #[.pointer (some ⟨R, 0, none⟩), .string s] w fun e w' => (∃ r, e = .returned r) ∧ ∃ left', RM B R w' left' lst nds drs pos list g ∧ LeftAt w' left' (l ++ s.data.toList) ∧ Below B w w' ∧ KT TS5 w w' := by
  obtain ⟨i0, hi, hz0, hz1, hz2⟩ := info_parts Tryz.info5
  have c0 : w.cell? ⟨R, 0, none⟩ = some left := by simp [World.cell?, h.blk]
  have hBw : B ≤ w.heap.size := by have := h.lt; have := h.BR; omega
  have hlt := h.lt
  have hRrow : some R ≠ left.ownBlock := fun e => h.rows hown (by decide) e.symm
  have H := hide h
  have HO := hide hown
  clear h hown
  go_enter Tryz.func136, Tryz.ntmps136
  go_wp2_with (at_builtin; refine Lib.wpList_append_own_string _ rfl (.tmp 8) (.tmp 9) 95 9 rfl B 5 i0 Tryz.underlying95 Tryz.underlying9 hi hz0 hz1 hz2 left _ _ rfl HO.out s rfl (by unfold maxLen; omega) (by omega) (by omega) ?_; intro v3 w3 hown3 hgrow3 hnil3; obtain ⟨a3, cap3, rfl, hc3⟩ := own_slice hown3; have hR3 := (hgrow3.block R (by omega) hRrow).trans H.out.blk; have c03 : w3.cell? ⟨R, 0, none⟩ = some left := (by simp [World.cell?, hR3]); have f03 : w3.frozen? ⟨R, 0, none⟩ = false := (by simp [World.frozen?, hR3]))
  go_end0
  have hK3 : KT [5] w w3 := (KT.refl [5] w).grown HO.out hgrow3 (by decide)
  have hB3 : Below B w w3 := (Below.refl B w).grown hgrow3 hBw (fun k hk => (HO.out.lt k hk).1)
  obtain ⟨a1, a2, a4⟩ := H.out.setLeft hK3 hB3 (.slice a3 (l.length + s.size) cap3)
  refine ⟨⟨_, rfl⟩, _, a1, ?_, a2, a4⟩
  have hll : (l ++ s.data.toList).length = l.length + s.size := by simp
  have ho : w3.ownsRow B 5 1 (.slice a3 (l.length + s.size) cap3) (l ++ s.data.toList).length (cellsOf (l ++ s.data.toList)) := by
    rw [cellsOf_append, hll, ← strCells_of]; exact hown3
  exact (own_left ho).kept ((KT.refl [127] w3).set hR3 (by decide) 0 _) (by decide)
theorem cells_bytes {w : World} {g o : Nat} {l : Bs} (h : BytesAt w g o l) : ∀ j u, (cellsOf l)[j]? = some u → w.cell? ((⟨g, o, none⟩ : Addr).add j) = some u := by
  intro j u hj
  have hl : j < l.length := by rw [← cellsOf_length]; exact (List.getElem?_eq_some_iff.1 hj).1
  have ha : (⟨g, o, none⟩ : Addr).add j = ⟨g, o + j, none⟩ := by unfold Addr.add; split <;> simp_all
  rw [ha, h j hl, ← hj]
  simp [cellsOf, hl]
theorem cells_one (l : Bs) : ∀ u ∈ cellsOf l, u.oneCell' = true := by
  intro u hu
  simp only [cellsOf, List.mem_map] at hu
  obtain ⟨b, _, rfl⟩ := hu
  rfl
set_option maxRecDepth 20000 in
set_option maxHeartbeats 1000000 in
theorem Trim_any {B R : Nat} {w : World} (x0 x1 x2 x3 x4 x5 x6 x7 : Value) (hR : w.heap[R]? = some (.cells #[x0, x1, x2, x3, x4, x5, x6, x7] 127 (0, 0))) (hBR : B ≤ R) (l : Bs) (hL : LeftAt w x0 l) (hl : l.length ≤ 100000000) :
    Calls Tryz.prog 138 #[.pointer (some ⟨R, 0, none⟩)] w fun e w' => (∃ r, e = .returned r) ∧ ∃ v w3, w' = w3.setCell ⟨R, 0, none⟩ v ∧ w3.ownsRow B 5 1 v l.length (cellsOf l) ∧ KT [5] w w3 ∧ Below B w w3 := by
  obtain ⟨i0, hi, hz0, hz1, hz2⟩ := info_parts Tryz.info5
  obtain ⟨a, cap, rfl, hc, hz, hy, hb⟩ := hL
  have c0 : w.cell? ⟨R, 0, none⟩ = some (.slice a l.length cap) := by simp [World.cell?, hR]
  have f0 : w.frozen? ⟨R, 0, none⟩ = false := by simp [World.frozen?, hR]
  have hlt := lt_of_block hR
  cases a with
  | none =>
    have hc0 := hz rfl
    subst hc0
    have hl0 : l = [] := List.eq_nil_of_length_eq_zero (by omega)
    subst hl0
    clear hb hz hy
    go_enter Tryz.func138, Tryz.ntmps138
    go_wp2_with (at_builtin; refine wpList_append_own_none rfl (.const (.slice none 0 0)) (.tmp 6) 95 rfl B 5 i0 1 Tryz.underlying95 hi (.slice none 0 0) 0 [] rfl (World.ownsRow_nil _ _ _ _) rfl ?_)
    go_end0
    exact ⟨⟨_, rfl⟩, _, w, rfl, World.ownsRow_nil _ _ _ _, KT.refl _ _, Below.refl _ _⟩
  | some ad =>
    obtain ⟨gB, o, spot⟩ := ad
    obtain rfl : spot = none := hy _ rfl
    have hbytes : BytesAt w gB o l := by
      rcases Nat.eq_zero_or_pos l.length with h0 | h0
      · rw [List.eq_nil_of_length_eq_zero h0]; exact BytesAt.nil _ _ _
      · obtain ⟨g', o', c, fz, e, _, hB'⟩ := hb h0
        cases e; exact hB'
    have HBy := hide hbytes
    clear hb hz hy hbytes
    go_enter Tryz.func138, Tryz.ntmps138
    go_wp2_with (at_builtin; refine wpList_append_own _ rfl (.const (.slice none 0 0)) (.tmp 6) 95 rfl B 5 i0 (.int .u8 0) 1 1 Tryz.underlying95 hi hz0 hz1 hz2 rfl (by decide) (.slice none 0 0) 0 [] rfl (World.ownsRow_nil _ _ _ _) ⟨gB, o, none⟩ l.length cap (cellsOf l) rfl (by rw [cellsOf_length]; omega) (cells_bytes HBy.out) (cells_one l) (by unfold maxLen; omega) (by omega) (by omega) ?_; intro v3 w3 hown3 hgrow3 hnil3; rw [Nat.zero_add, List.nil_append] at hown3; obtain ⟨a3, cap3, rfl, hc3⟩ := own_slice hown3; have hR3 := (hgrow3.block R hlt (by simp [Value.ownBlock])).trans hR; have c03 : w3.cell? ⟨R, 0, none⟩ = some (.slice (some ⟨gB, o, none⟩) l.length cap) := (by simp [World.cell?, hR3]); have f03 : w3.frozen? ⟨R, 0, none⟩ = false := (by simp [World.frozen?, hR3]))
    go_end0
    have hg0 : Below w.heap.size w w3 := (Below.refl _ w).grown hgrow3 (Nat.le_refl _) (fun k hk => by simp [Value.ownBlock] at hk)
    exact ⟨⟨_, rfl⟩, _, w3, rfl, hown3, KT.new _ hg0, hg0.mono (by omega)⟩
end Go.Proofs.YticfcjmlphhpgaaGreatDoor
/-
  WALKS of the reader, 18: Read.
-/
namespace Go.Proofs.YticfcjmlphhpgaaGreatDoor
open Go.RowKit

/-- A reader that has failed, whatever is left. -/
def RBadL (B R : Nat) (w : World) (e : Int) (p : Nat) : Prop := B ≤ R ∧ ∃ x0 nds drs path, w.heap[R]? = some (.cells #[x0, .int .i64 0, .slice none 0 0, .int .i64 e, .int .i64 p, nds, drs, .string path] 127 (0, 0))
/-- A reader between two pieces. -/
def RdAt (B R : Nat) (w : World) : Rd → Prop
  | .ok st => ∃ left lst nds drs, RM B R w left lst nds drs st.pos st.list st.gr ∧ w.ownsRow B 5 1 left st.left.length (cellsOf st.left)
  | .bad e p => RBadL B R w e p ∧ (e == 0) = false
def RInv : Rd → Nat → Prop
  | .ok st, tot => Inv st tot
  | .bad _ _, _ => True
theorem stepF_ne {st : St} {e : Int} {p : Nat} (h : stepF st = .fail e p) : (e == 0) = false := by
  obtain ⟨l, pos, list, g⟩ := st
  cases list with
  | nil =>
    simp only [stepF] at h
    split at h
    · cases h
    · injection h with h _; subst h; rfl
  | cons i r =>
    simp only [stepF] at h
    cases hc : cutF l i.most with
    | wait => rw [hc] at h; cases h
    | bad er =>
      rw [hc] at h
      simp only at h
      injection h with h _
      subst h
      rcases cutF_bad hc with rfl | rfl <;> rfl
    | ok s rest n =>
      rw [hc] at h
      simp only at h
      cases ht : takeF g i ⟨s.toArray⟩ with
      | err er => rw [ht] at h; simp only at h; injection h with h _; subst h; exact takeF_err ht
      | more g' push => rw [ht] at h; cases h
theorem runS_inv : ∀ (f : Nat) (st : St) (tot : Nat), Inv st tot → RInv (runS f st) tot
  | 0, _, _, h => h
  | f + 1, st, tot, h => by
    simp only [runS]
    cases hs : stepF st with
    | stop => exact h
    | fail e p => trivial
    | go st' => exact runS_inv f st' tot (h.step hs)
theorem feedF_inv {rd : Rd} {tot : Nat} (h : RInv rd tot) (s : Bs) : RInv (feedF rd s) (tot + s.length) := by
  cases rd with
  | bad e p => trivial
  | ok st => exact runS_inv _ _ _ (Inv.add h s)
def leftLen (R : Nat) (w : World) : Nat := match w.cell? ⟨R, 0, none⟩ with
  | some (.slice _ n _) => n
  | _ => 0
theorem RM.leftLen {B R : Nat} {w : World} {left lst nds drs : Value} {pos : Nat} {list : List It} {g : Gr} (h : RM B R w left lst nds drs pos list g) {l : Bs} (hL : LeftAt w left l) : leftLen R w = l.length := by
  obtain ⟨a, cap, rfl, _⟩ := hL
  have c0 : w.cell? ⟨R, 0, none⟩ = some (.slice a l.length cap) := by simp [World.cell?, h.blk]
  unfold Go.Proofs.YticfcjmlphhpgaaGreatDoor.leftLen
  rw [c0]
def ReadPost (B R : Nat) (w : World) (rd : Rd) (e : Ending) (w' : World) : Prop :=
  e = .returned (.int .i64 (match rd with | .ok _ => 0 | .bad er _ => er)) ∧ RdAt B R w' rd ∧ Below B w w' ∧ KT TS5 w w'

set_option maxRecDepth 20000 in
set_option maxHeartbeats 2000000 in
theorem Read_any {B R : Nat} {w : World} {rd : Rd} {tot : Nat} (h : RdAt B R w rd) (hI : RInv rd tot) (s : ByteArray) (ht : tot + s.size ≤ 50000000) (hT : Lib.Utf8Tabs 0 1 w) (hB2 : 2 ≤ B) :
    Calls Tryz.prog 113 #[.pointer (some ⟨R, 0, none⟩), .string s] w (ReadPost B R w (feedF rd s.data.toList)) := by
  cases rd with
  | bad e p =>
    obtain ⟨⟨hBR, x0, nds, drs, path, hR⟩, hne⟩ := h
    have c3 : w.cell? ⟨R, 3, none⟩ = some (.int .i64 e) := by simp [World.cell?, hR]
    have HR : Hid (ReadPost B R w (feedF (.bad e p) s.data.toList) (.returned (.int .i64 e)) w) := ⟨rfl, ⟨⟨hBR, x0, nds, drs, path, hR⟩, hne⟩, Below.refl _ _, KT.refl _ _⟩
    clear hR
    go_enter Tryz.func113, Tryz.ntmps113
    go_wp2
    go_ret
    exact HR.out
  | ok st =>
    obtain ⟨left, lst, nds, drs, hM, hO⟩ := h
    have hIst : Inv st tot := hI
    have hsum := hIst.sum
    have c3 : w.cell? ⟨R, 3, none⟩ = some (.int .i64 0) := by simp [World.cell?, hM.blk]
    have hBw : B ≤ w.heap.size := by have := hM.lt; have := hM.BR; omega
    have hBR := hM.BR
    have cA := hide (Add_any hM st.left hO s (by omega) (by omega))
    have hsl : s.data.toList.length = s.size := by simp
    obtain ⟨RR, hRR⟩ : ∃ RR, feedF (.ok st) s.data.toList = RR := ⟨_, rfl⟩
    rw [hRR]
    have HRR : Hid (runS (st.add s.data.toList).left.length (st.add s.data.toList) = RR) := by
      show _ = _
      rw [← hRR]
      exact runS_fuel _ _ _ (Nat.le_refl _) (by simp [St.add])
    have HI := hide (Inv.add hIst s.data.toList)
    have HT := hide hT
    clear hM hO hRR hI hIst hT
    go_enter Tryz.func113, Tryz.ntmps113
    go_wp2_with fail
    refine cA.out.mono ?_
    rintro e w1 ⟨⟨r, rfl⟩, left1, hM1, hL1, hb1, hk1⟩
    clear cA c3
    go_wp2
    go_loopw [19, 20] (fun _ _ w2 => ∃ (st2 : St) (left2 lst2 nds2 drs2 : Value), Hid (RM B R w2 left2 lst2 nds2 drs2 st2.pos st2.list st2.gr) ∧ Hid (LeftAt w2 left2 st2.left) ∧ Hid (Inv st2 (tot + s.data.toList.length)) ∧ Hid (runS st2.left.length st2 = RR) ∧ Hid (Below B w w2) ∧ Hid (KT TS5 w w2)) (fun _ _ w2 => leftLen R w2)
    case atStart => exact ⟨st.add s.data.toList, left1, lst, nds, drs, hide hM1, hide hL1, HI, HRR, hide hb1, hide hk1⟩
    case round =>
      obtain ⟨st2, left2, lst2, nds2, drs2, hM2, hL2, hI2, hR2, hb2, hk2⟩ := hrel
      have hlen2 := hM2.out.leftLen hL2.out
      have cS := step_any hM2.out hL2.out hI2.out (by omega) (tabs_B hB2 HT.out hb2.out) hB2
      cases hst : stepF st2 with
      | stop =>
        rw [hst] at cS
        have CS := hide cS
        clear cS
        have hRR2 : RR = .ok st2 := by
          rw [← hR2.out]
          cases hl : st2.left.length with
          | zero => rfl
          | succ k => simp only [runS, hst]
        go_wp2_with fail
        refine CS.out.mono ?_
        rintro e w3 ⟨rfl, hb3⟩
        have hM3 := hide (hM2.out.new hb3)
        have hL3 := hide (hL2.out.kept (KT.new [] hb3) (by simp))
        go_wp2_with fail
        refine (Trim_any _ _ _ _ _ _ _ _ hM3.out.blk hBR st2.left hL3.out (by have := hI2.out.sum; omega)).mono ?_
        rintro e w4 ⟨⟨r4, rfl⟩, v, w5, rfl, hO5, hk5, hb5⟩
        obtain ⟨a1, a2, a3⟩ := hM3.out.setLeft hk5 hb5 v
        have c3 : (w5.setCell ⟨R, 0, none⟩ v).cell? ⟨R, 3, none⟩ = some (.int .i64 0) := by simp [World.cell?, a1.blk]
        have hO6 : (w5.setCell ⟨R, 0, none⟩ v).ownsRow B 5 1 v st2.left.length (cellsOf st2.left) := ownsRow_setCell_other hO5 (fun e => by
          obtain ⟨c, fz, hc⟩ := own_kind hO5 R e
          have hR5 := hk5 _ _ _ _ hM3.out.blk (by decide)
          rw [hR5] at hc
          injection hc with hc
          injection hc with _ hc _
          exact absurd hc (by decide)) _
        have HE : Hid (ReadPost B R w RR (.returned (.int .i64 0)) (w5.setCell ⟨R, 0, none⟩ v)) := by
          show ReadPost _ _ _ _ _ _
          rw [hRR2]
          exact ⟨rfl, ⟨_, _, _, _, a1, hO6⟩, (below_ext hb2.out hBw hb3).trans a2, (hk2.out.trans (KT.new TS5 hb3)).trans a3⟩
        clear a1 a2 a3 hO6 hRR2
        go_wp2
        go_ret
        exact HE.out
      | fail er p =>
        rw [hst] at cS
        have CS := hide cS
        clear cS
        have hne := stepF_ne hst
        have hRR2 : RR = .bad er p := by
          rw [← hR2.out]
          cases hl : st2.left.length with
          | zero =>
            exfalso
            have h0 : st2.left = [] := List.eq_nil_of_length_eq_zero hl
            unfold stepF at hst
            split at hst
            · rw [if_pos h0] at hst; cases hst
            · rw [h0] at hst; simp [cutF] at hst
          | succ k => simp only [runS, hst]
        go_wp2_with fail
        refine CS.out.mono ?_
        rintro e w3 ⟨rfl, ⟨hBR3, nds3, drs3, path3, hR3⟩, hb3, hk3⟩
        go_wp2_with fail
        refine (Trim_any _ _ _ _ _ _ _ _ hR3 hBR [] ⟨none, 0, rfl, Nat.le_refl _, fun _ => rfl, (fun x h => by cases h), fun h => by simp at h⟩ (by simp)).mono ?_
        rintro e w4 ⟨⟨r4, rfl⟩, v, w5, rfl, hO5, hk5, hb5⟩
        have hR5 := hk5 _ _ _ _ hR3 (by decide)
        have hR6 := block_set hR5 0 v
        have c3 : (w5.setCell ⟨R, 0, none⟩ v).cell? ⟨R, 3, none⟩ = some (.int .i64 er) := by simp [World.cell?, hR6]
        have HE : Hid (ReadPost B R w RR (.returned (.int .i64 er)) (w5.setCell ⟨R, 0, none⟩ v)) := by
          show ReadPost _ _ _ _ _ _
          rw [hRR2]
          exact ⟨rfl, ⟨⟨hBR, v, nds3, drs3, path3, hR6⟩, hne⟩, ((hb2.out.trans hb3).trans hb5).setCell hBR _, ((hk2.out.trans (hk3.mono ts5)).trans (hk5.mono (by decide))).set hR5 (by decide) _ _⟩
        clear hRR2 hR6
        go_wp2
        go_ret
        exact HE.out
      | go st3 =>
        rw [hst] at cS
        have CS := hide cS
        clear cS
        have hgo := stepF_go hst
        have hI3 := hide (hI2.out.step hst)
        have hR3 : Hid (runS st3.left.length st3 = RR) := by
          show _ = _
          rw [← hR2.out]
          obtain ⟨k, hk⟩ : ∃ k, st2.left.length = k + 1 := ⟨st2.left.length - 1, by omega⟩
          rw [hk]
          simp only [runS, hst]
          exact runS_fuel _ _ _ (Nat.le_refl _) (by omega)
        go_wp2_with fail
        refine CS.out.mono ?_
        rintro e w3 ⟨rfl, left3, lst3, nds3, drs3, hM3, hL3, hb3, hk3⟩
        have hlen3 := hM3.leftLen hL3
        go_wp2
        go_roundw
        case rel => exact ⟨st3, left3, lst3, nds3, drs3, hide hM3, hide hL3, hI3, hR3, hide (hb2.out.trans hb3), hide (hk2.out.trans (hk3.mono ts5))⟩
        case measure => rw [hlen3, hlen2]; omega
end Go.Proofs.YticfcjmlphhpgaaGreatDoor
/-
  WALKS of the reader, 19: package tree's reader: a new one, a piece more, the end.
-/
namespace Go.Proofs.YticfcjmlphhpgaaGreatDoor
open Go.RowKit

set_option maxRecDepth 20000 in
set_option maxHeartbeats 2000000 in
/-- A tree must come, at a reader that is new. -/
theorem MustTree_new (R : Nat) (w : World) (hR : w.heap[R]? = some (.cells #[.slice none 0 0, .int .i64 0, .slice none 0 0, .int .i64 0, .int .i64 0, .slice none 0 0, .slice none 0 0, .string ⟨#[]⟩] 127 (0, 0))) : Calls Tryz.prog 135 #[.pointer (some ⟨R, 0, none⟩)] w fun e w' => e = .returned (.tuple #[]) ∧ RdAt R R w' rd0 ∧ Below R w w' := by
  have hmf : ∀ (fn : Fn) (first cap : Array Value) (w : World), (Instr.makeFunc fn first cap).run Tryz.prog w = .ok (.func fn first cap) w := fun _ _ _ _ => rfl
  have hbd : Bd [] ⟨[], [], ⟨#[]⟩⟩ := ⟨by simp, by simp, by simp, Nat.zero_le _, (fun n hn => by cases hn), (fun n hn => by cases hn)⟩
  have hlt := lt_of_block hR
  have c5 : w.cell? ⟨R, 5, none⟩ = some (.slice none 0 0) := by simp [World.cell?, hR]
  have c6 : w.cell? ⟨R, 6, none⟩ = some (.slice none 0 0) := by simp [World.cell?, hR]
  have c7 : w.cell? ⟨R, 7, none⟩ = some (.string ⟨#[]⟩) := by simp [World.cell?, hR]
  have f5 : w.frozen? ⟨R, 5, none⟩ = false := by simp [World.frozen?, hR]
  have f6 : w.frozen? ⟨R, 6, none⟩ = false := by simp [World.frozen?, hR]
  have f7 : w.frozen? ⟨R, 7, none⟩ = false := by simp [World.frozen?, hR]
  have hb0 : Below R w (((w.setCell ⟨R, 5, none⟩ (.slice none 0 0)).setCell ⟨R, 6, none⟩ (.slice none 0 0)).setCell ⟨R, 7, none⟩ (.string ⟨#[]⟩)) := (((Below.refl R w).setCell (Nat.le_refl _) _).setCell (Nat.le_refl _) _).setCell (Nat.le_refl _) _
  have hz : (((w.setCell ⟨R, 5, none⟩ (.slice none 0 0)).setCell ⟨R, 6, none⟩ (.slice none 0 0)).setCell ⟨R, 7, none⟩ (.string ⟨#[]⟩)).heap.size = w.heap.size := by simp [World.setCell]
  have hM : RM R R (((w.setCell ⟨R, 5, none⟩ (.slice none 0 0)).setCell ⟨R, 6, none⟩ (.slice none 0 0)).setCell ⟨R, 7, none⟩ (.string ⟨#[]⟩)) (.slice none 0 0) (.slice none 0 0) (.slice none 0 0) (.slice none 0 0) 0 [] ⟨[], [], ⟨#[]⟩⟩ :=
    ⟨block_set (block_set (block_set hR 5 (.slice none 0 0)) 6 (.slice none 0 0)) 7 (.string ⟨#[]⟩), Nat.le_refl _, ⟨[], trivial, World.ownsRow_nil _ _ _ _⟩, World.ownsRow_nil _ _ _ _, World.ownsRow_nil _ _ _ _⟩
  go_enter Tryz.func135, Tryz.ntmps135
  go_wp2
  generalize ((w.setCell ⟨R, 5, none⟩ (.slice none 0 0)).setCell ⟨R, 6, none⟩ (.slice none 0 0)).setCell ⟨R, 7, none⟩ (.string ⟨#[]⟩) = W7 at hb0 hM hz ⊢
  have hM0 := hide (hM.new (drewB W7))
  clear hM c5 c6 c7 f5 f6 f7
  go_region_with (first
    | (go_at_call 81; refine (Word_any wNar _).mono ?_; rintro e u1 ⟨bx1, rfl, hx1, hu1⟩; have hM1 := hide (hM0.out.new hu1); have hI1 : IsIt u1 R (.word wNar) ⟨8, .func 111, #[], #[.pointer (some ⟨bx1, 0, none⟩)]⟩ := ⟨bx1, rfl, hx1⟩)
    | (go_at_call 82; refine (Words_any (.func 158) _ _ _).mono ?_; rintro e u2 ⟨rfl, hu2⟩; have hM2 := hide (hM1.out.new hu2); have hI1 := hI1.kept (KT.new [] hu2) (by simp); have hI2 : IsIt u2 R (.bracket) ⟨8, .func 158, #[.pointer (some ⟨R, 0, none⟩)], #[]⟩ := rfl)
    | (go_at_call 80; refine (Must_rm (hM2.out.new ((Below.refl _ _).alloc (Nat.le_refl _) _)) u2.heap.size [.word wNar, .bracket] [⟨8, .func 111, #[], #[.pointer (some ⟨bx1, 0, none⟩)]⟩, ⟨8, .func 158, #[.pointer (some ⟨R, 0, none⟩)], #[]⟩] ⟨hI1.kept (KT.new [] ((Below.refl _ _).alloc (Nat.le_refl _) _)) (by simp), hI2.kept (KT.new [] ((Below.refl _ _).alloc (Nat.le_refl _) _)) (by simp), trivial⟩ (block_new u2 _) hM2.out.lstNew (by have := hbd.ll; omega) (by simp)).mono ?_; rintro e uz ⟨⟨r, rfl⟩, lstz, hRMz, hbz, hkz⟩))
  all_goals
    go_wp2
    go_end0
    have hBw : R ≤ w.heap.size := by omega
    have hbz' := ((below_ext (below_ext (below_ext hb0 hBw (drewB W7)) hBw hu1) hBw hu2).alloc (by have := hu2.size; have := hu1.size; have := (drewB W7).size; have := hb0.size; omega) _).trans hbz
    refine ⟨rfl, ?_, hbz'⟩
    exact ⟨_, _, _, _, hRMz, World.ownsRow_nil _ _ _ _⟩
set_option maxRecDepth 20000 in
set_option maxHeartbeats 2000000 in
theorem treeNew_any (w : World) : Calls Tryz.prog 125 #[] w fun e w' => e = .returned (.pointer (some ⟨w.heap.size, 0, none⟩)) ∧ RdAt w.heap.size w.heap.size w' rd0 ∧ Below w.heap.size w w' := by
  have cM := hide (MustTree_new w.heap.size _ (block_new w (.cells #[.slice none 0 0, .int .i64 0, .slice none 0 0, .int .i64 0, .int .i64 0, .slice none 0 0, .slice none 0 0, .string ⟨#[]⟩] 127)))
  have hb0 := (Below.refl _ w).alloc (Nat.le_refl _) (.cells #[.slice none 0 0, .int .i64 0, .slice none 0 0, .int .i64 0, .int .i64 0, .slice none 0 0, .slice none 0 0, .string ⟨#[]⟩] 127)
  go_enter Tryz.func125, Tryz.ntmps125
  go_wp2_with fail
  refine cM.out.mono ?_
  rintro e w1 ⟨rfl, h1, h2⟩
  go_wp2
  go_ret
  exact ⟨rfl, h1, hb0.trans h2⟩

set_option maxRecDepth 20000 in
set_option maxHeartbeats 1000000 in
theorem treeFeed_any {B R : Nat} {w : World} {rd : Rd} {tot : Nat} (h : RdAt B R w rd) (hI : RInv rd tot) (s : ByteArray) (ht : tot + s.size ≤ 50000000) (hT : Lib.Utf8Tabs 0 1 w) (hB2 : 2 ≤ B) :
    Calls Tryz.prog 84 #[.pointer (some ⟨R, 0, none⟩), .string s] w fun e w' => (∃ r, e = .returned r) ∧ RdAt B R w' (feedF rd s.data.toList) ∧ Below B w w' ∧ KT TS5 w w' := by
  have cR := Read_any h hI s ht hT hB2
  cases hrd : feedF rd s.data.toList with
  | ok st =>
    rw [hrd] at cR
    have CR := hide cR
    clear cR
    go_enter Tryz.func84, Tryz.ntmps84
    go_wp2_with fail
    refine CR.out.mono ?_
    rintro e w1 ⟨rfl, h1, h2, h3⟩
    go_wp2
    go_end0
    exact ⟨⟨_, rfl⟩, h1, h2, h3⟩
  | bad er p =>
    rw [hrd] at cR
    have CR := hide cR
    clear cR
    go_enter Tryz.func84, Tryz.ntmps84
    go_wp2_with fail
    refine CR.out.mono ?_
    rintro e w1 ⟨rfl, ⟨⟨hBR, x0, nds, drs, path, hR⟩, hne⟩, h2, h3⟩
    have c5 : w1.cell? ⟨R, 5, none⟩ = some nds := by simp [World.cell?, hR]
    have c6 : w1.cell? ⟨R, 6, none⟩ = some drs := by simp [World.cell?, hR]
    have c7 : w1.cell? ⟨R, 7, none⟩ = some (.string path) := by simp [World.cell?, hR]
    have f5 : w1.frozen? ⟨R, 5, none⟩ = false := by simp [World.frozen?, hR]
    have f6 : w1.frozen? ⟨R, 6, none⟩ = false := by simp [World.frozen?, hR]
    have f7 : w1.frozen? ⟨R, 7, none⟩ = false := by simp [World.frozen?, hR]
    have HR := hide hR
    clear hR
    go_wp2
    go_end0
    have b5 := block_set HR.out 5 (.slice none 0 0)
    have b6 := block_set b5 6 (.slice none 0 0)
    have b7 := block_set b6 7 (.string ⟨#[]⟩)
    exact ⟨⟨_, rfl⟩, ⟨⟨hBR, x0, _, _, _, b7⟩, hne⟩, ((h2.setCell hBR _).setCell hBR _).setCell hBR _, ((h3.set HR.out (by decide) _ _).set b5 (by decide) _ _).set b6 (by decide) _ _⟩

set_option maxRecDepth 20000 in
set_option maxHeartbeats 1000000 in
theorem End_any {B R : Nat} {w : World} {rd : Rd} {tot : Nat} (h : RdAt B R w rd) (hI : RInv rd tot) (ht : tot ≤ 50000000) :
    Calls Tryz.prog 85 #[.pointer (some ⟨R, 0, none⟩)] w fun e w' => e = .returned (.tuple #[.int .i64 (closeF rd).2.1, .int .i64 ((closeF rd).2.2 : Nat)]) ∧ ∃ q, w' = w.drewN q := by
  cases rd with
  | bad er p =>
    obtain ⟨⟨hBR, x0, nds, drs, path, hR⟩, hne⟩ := h
    have c2 : w.cell? ⟨R, 2, none⟩ = some (.slice none 0 0) := by simp [World.cell?, hR]
    have c3 : w.cell? ⟨R, 3, none⟩ = some (.int .i64 er) := by simp [World.cell?, hR]
    have c4 : w.cell? ⟨R, 4, none⟩ = some (.int .i64 p) := by simp [World.cell?, hR]
    simp only [closeF]
    clear hR hne
    go_enter Tryz.func85, Tryz.ntmps85
    go_wp2
    go_quiet (fail)
    go_wp2
    go_ret2
    exact ⟨rfl, _, rfl⟩
  | ok st =>
    obtain ⟨left, lst, nds, drs, hM, hO⟩ := h
    have hsum := Inv.sum hI
    obtain ⟨ivs, h1, h2⟩ := hM.its
    obtain ⟨aL, capL, rfl, _⟩ := own_slice h2
    obtain ⟨aB, capB, rfl, _⟩ := own_slice hO
    have c0 : w.cell? ⟨R, 0, none⟩ = some (.slice aB st.left.length capB) := by simp [World.cell?, hM.blk]
    have c1 : w.cell? ⟨R, 1, none⟩ = some (.int .i64 st.pos) := by simp [World.cell?, hM.blk]
    have c2 : w.cell? ⟨R, 2, none⟩ = some (.slice aL st.list.length capL) := by simp [World.cell?, hM.blk]
    have c3 : w.cell? ⟨R, 3, none⟩ = some (.int .i64 0) := by simp [World.cell?, hM.blk]
    have c4 : w.cell? ⟨R, 4, none⟩ = some (.int .i64 0) := by simp [World.cell?, hM.blk]
    have hP := hide (fun q => Place_any R st.pos (w.drewN q) (by simp; exact c1))
    have hF := hide (fun q => Left_any R aB st.left.length capB (w.drewN q) (by simp; exact c0))
    simp only [closeF]
    by_cases hl : st.list = []
    · rw [if_pos hl]
      have hlz : ¬ (0 : Int) < st.list.length := by rw [hl]; simp
      clear hM hO h1 h2 hP hF c0 c1
      go_enter Tryz.func85, Tryz.ntmps85
      go_wp2
      go_quiet (fail)
      go_wp2
      go_ret2
      exact ⟨rfl, _, rfl⟩
    · rw [if_neg hl]
      have hlz : (0 : Int) < st.list.length := by have := List.length_pos_iff.2 hl; omega
      have hcast : ((st.pos + st.left.length : Nat) : Int) = (st.pos : Int) + st.left.length := by omega
      rw [hcast]
      clear hM hO h1 h2
      go_enter Tryz.func85, Tryz.ntmps85
      go_wp2
      go_quiet (first | (go_at_call 114; exact Calls.quiet_of_same (hP.out _)) | (go_at_call 115; exact Calls.quiet_of_same (hF.out _)))
      go_wp2
      go_ret2
      exact ⟨rfl, _, rfl⟩

end Go.Proofs.YticfcjmlphhpgaaGreatDoor
