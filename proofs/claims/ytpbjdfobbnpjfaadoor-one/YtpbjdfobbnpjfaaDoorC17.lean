/-
  WALKS of the reader, 17: bytes are added, and trimmed.
-/
import Derived.Test.YtpbjdfobbnpjfaaDoorC16
import Derived.Laws.AppendOwnNone
namespace Go.Proofs.YtpbjdfobbnpjfaaDoor
open Go.RowKit

def TS5 : List TypeId := [5, 61, 75, 37, 87]
theorem ts5 : ∀ t, t ∈ TS → t ∈ TS5 := by decide
theorem strCells_of (s : ByteArray) : Lib.strCells s = cellsOf s.data.toList := rfl
theorem own_left {w : World} {B : Nat} {v : Value} {l : Bs} (h : w.ownsRow B 5 1 v l.length (cellsOf l)) : LeftAt w v l := by
  rcases h.2 with ⟨rfl, h0⟩ | ⟨g, cap, cur, rfl, hg, hh, hn, hm, hc, hx⟩
  · exact ⟨none, 0, by rw [h0], by omega, fun _ => rfl, (fun x h => by cases h), fun hl => by omega⟩
  · refine ⟨_, cap, rfl, hn, (fun h => by cases h), (fun x h => by cases h; rfl), fun _ => ⟨g, 0, cur, (0, 0), rfl, hh, fun i hi => ?_⟩⟩
    have hrow : w.ownsRow B 5 1 (.slice (some ⟨g, 0, none⟩) l.length cap) l.length (cellsOf l) := h
    rw [Nat.zero_add, hrow.cellAt i (by omega)]
    simp [cellsOf, hi]
/-- A cell of R is stored: the left bytes. -/
theorem RM.setLeft {B R : Nat} {w w3 : World} {left lst nds drs : Value} {pos : Nat} {list : List It} {g : Gr} (h : RM B R w left lst nds drs pos list g) (hk : KT [5] w w3) (hb : Below B w w3) (left' : Value) :
    RM B R (w3.setCell ⟨R, 0, none⟩ left') left' lst nds drs pos list g ∧ Below B w (w3.setCell ⟨R, 0, none⟩ left') ∧ KT TS5 w (w3.setCell ⟨R, 0, none⟩ left') := by
  have hR3 := hk _ _ _ _ h.blk (by decide)
  have hk2 : KT [5, 61] w (w3.setCell ⟨R, 0, none⟩ left') := KT.set (hk.mono (by decide)) hR3 (by decide) _ _
  obtain ⟨ivs, h1, h2⟩ := h.its
  exact ⟨⟨block_set hR3 0 _, h.BR, ⟨ivs, h1.kept hk2 (by decide), own_kt h2 hk2 (by decide)⟩, own_kt h.nd hk2 (by decide), own_kt h.dr hk2 (by decide)⟩, hb.setCell h.BR _, hk2.mono (by decide)⟩

set_option maxRecDepth 20000 in
set_option maxHeartbeats 1000000 in
theorem Add_any {B R : Nat} {w : World} {left lst nds drs : Value} {pos : Nat} {list : List It} {g : Gr} (h : RM B R w left lst nds drs pos list g) (l : Bs) (hown : w.ownsRow B 5 1 left l.length (cellsOf l)) (s : ByteArray) (hl : l.length ≤ 100000000) (hs : s.size ≤ 100000000) :
    Calls Tryd.prog 34 #[.pointer (some ⟨R, 0, none⟩), .string s] w fun e w' => (∃ r, e = .returned r) ∧ ∃ left', RM B R w' left' lst nds drs pos list g ∧ LeftAt w' left' (l ++ s.data.toList) ∧ Below B w w' ∧ KT TS5 w w' := by
  obtain ⟨i0, hi, hz0, hz1, hz2⟩ := info_parts Tryd.info5
  have c0 : w.cell? ⟨R, 0, none⟩ = some left := by simp [World.cell?, h.blk]
  have hBw : B ≤ w.heap.size := by have := h.lt; have := h.BR; omega
  have hlt := h.lt
  have hRrow : some R ≠ left.ownBlock := fun e => h.rows hown (by decide) e.symm
  have H := hide h
  have HO := hide hown
  clear h hown
  go_enter Tryd.func34, Tryd.ntmps34
  go_wp2_with (at_builtin; refine Lib.wpList_append_own_string _ rfl (.tmp 8) (.tmp 9) 40 9 rfl B 5 i0 Tryd.underlying40 Tryd.underlying9 hi hz0 hz1 hz2 left _ _ rfl HO.out s rfl (by unfold maxLen; omega) (by omega) (by omega) ?_; intro v3 w3 hown3 hgrow3 hnil3; obtain ⟨a3, cap3, rfl, hc3⟩ := own_slice hown3; have hR3 := (hgrow3.block R (by omega) hRrow).trans H.out.blk; have c03 : w3.cell? ⟨R, 0, none⟩ = some left := (by simp [World.cell?, hR3]); have f03 : w3.frozen? ⟨R, 0, none⟩ = false := (by simp [World.frozen?, hR3]))
  go_end0
  have hK3 : KT [5] w w3 := (KT.refl [5] w).grown HO.out hgrow3 (by decide)
  have hB3 : Below B w w3 := (Below.refl B w).grown hgrow3 hBw (fun k hk => (HO.out.lt k hk).1)
  obtain ⟨a1, a2, a4⟩ := H.out.setLeft hK3 hB3 (.slice a3 (l.length + s.size) cap3)
  refine ⟨⟨_, rfl⟩, _, a1, ?_, a2, a4⟩
  have hll : (l ++ s.data.toList).length = l.length + s.size := by simp
  have ho : w3.ownsRow B 5 1 (.slice a3 (l.length + s.size) cap3) (l ++ s.data.toList).length (cellsOf (l ++ s.data.toList)) := by
    rw [cellsOf_append, hll, ← strCells_of]; exact hown3
  exact (own_left ho).kept ((KT.refl [61] w3).set hR3 (by decide) 0 _) (by decide)
theorem cells_bytes {w : World} {g o : Nat} {l : Bs} (h : BytesAt w g o l) : ∀ j u, (cellsOf l)[j]? = some u → w.cell? ((⟨g, o, none⟩ : Addr).add j) = some u := by
  intro j u hj
  have hl : j < l.length := by rw [← cellsOf_length]; exact (List.getElem?_eq_some_iff.1 hj).1
  have ha : (⟨g, o, none⟩ : Addr).add j = ⟨g, o + j, none⟩ := by unfold Addr.add; split <;> simp_all
  rw [ha, h j hl, ← hj]
  simp [cellsOf, hl]
theorem cells_one (l : Bs) : ∀ u ∈ cellsOf l, u.oneCell' = true := by
  intro u hu
  simp only [cellsOf, List.mem_map] at hu
  obtain ⟨b, _, rfl⟩ := hu
  rfl
set_option maxRecDepth 20000 in
set_option maxHeartbeats 1000000 in
theorem Trim_any {B R : Nat} {w : World} (x0 x1 x2 x3 x4 x5 x6 x7 : Value) (hR : w.heap[R]? = some (.cells #[x0, x1, x2, x3, x4, x5, x6, x7] 61 (0, 0))) (hBR : B ≤ R) (l : Bs) (hL : LeftAt w x0 l) (hl : l.length ≤ 100000000) :
    Calls Tryd.prog 36 #[.pointer (some ⟨R, 0, none⟩)] w fun e w' => (∃ r, e = .returned r) ∧ ∃ v w3, w' = w3.setCell ⟨R, 0, none⟩ v ∧ w3.ownsRow B 5 1 v l.length (cellsOf l) ∧ KT [5] w w3 ∧ Below B w w3 := by
  obtain ⟨i0, hi, hz0, hz1, hz2⟩ := info_parts Tryd.info5
  obtain ⟨a, cap, rfl, hc, hz, hy, hb⟩ := hL
  have c0 : w.cell? ⟨R, 0, none⟩ = some (.slice a l.length cap) := by simp [World.cell?, hR]
  have f0 : w.frozen? ⟨R, 0, none⟩ = false := by simp [World.frozen?, hR]
  have hlt := lt_of_block hR
  cases a with
  | none =>
    have hc0 := hz rfl
    subst hc0
    have hl0 : l = [] := List.eq_nil_of_length_eq_zero (by omega)
    subst hl0
    clear hb hz hy
    go_enter Tryd.func36, Tryd.ntmps36
    go_wp2_with (at_builtin; refine wpList_append_own_none rfl (.const (.slice none 0 0)) (.tmp 6) 40 rfl B 5 i0 1 Tryd.underlying40 hi (.slice none 0 0) 0 [] rfl (World.ownsRow_nil _ _ _ _) rfl ?_)
    go_end0
    exact ⟨⟨_, rfl⟩, _, w, rfl, World.ownsRow_nil _ _ _ _, KT.refl _ _, Below.refl _ _⟩
  | some ad =>
    obtain ⟨gB, o, spot⟩ := ad
    obtain rfl : spot = none := hy _ rfl
    have hbytes : BytesAt w gB o l := by
      rcases Nat.eq_zero_or_pos l.length with h0 | h0
      · rw [List.eq_nil_of_length_eq_zero h0]; exact BytesAt.nil _ _ _
      · obtain ⟨g', o', c, fz, e, _, hB'⟩ := hb h0
        cases e; exact hB'
    have HBy := hide hbytes
    clear hb hz hy hbytes
    go_enter Tryd.func36, Tryd.ntmps36
    go_wp2_with (at_builtin; refine wpList_append_own _ rfl (.const (.slice none 0 0)) (.tmp 6) 40 rfl B 5 i0 (.int .u8 0) 1 1 Tryd.underlying40 hi hz0 hz1 hz2 rfl (by decide) (.slice none 0 0) 0 [] rfl (World.ownsRow_nil _ _ _ _) ⟨gB, o, none⟩ l.length cap (cellsOf l) rfl (by rw [cellsOf_length]; omega) (cells_bytes HBy.out) (cells_one l) (by unfold maxLen; omega) (by omega) (by omega) ?_; intro v3 w3 hown3 hgrow3 hnil3; rw [Nat.zero_add, List.nil_append] at hown3; obtain ⟨a3, cap3, rfl, hc3⟩ := own_slice hown3; have hR3 := (hgrow3.block R hlt (by simp [Value.ownBlock])).trans hR; have c03 : w3.cell? ⟨R, 0, none⟩ = some (.slice (some ⟨gB, o, none⟩) l.length cap) := (by simp [World.cell?, hR3]); have f03 : w3.frozen? ⟨R, 0, none⟩ = false := (by simp [World.frozen?, hR3]))
    go_end0
    have hg0 : Below w.heap.size w w3 := (Below.refl _ w).grown hgrow3 (Nat.le_refl _) (fun k hk => by simp [Value.ownBlock] at hk)
    exact ⟨⟨_, rfl⟩, _, w3, rfl, hown3, KT.new _ hg0, hg0.mono (by omega)⟩
end Go.Proofs.YtpbjdfobbnpjfaaDoor
