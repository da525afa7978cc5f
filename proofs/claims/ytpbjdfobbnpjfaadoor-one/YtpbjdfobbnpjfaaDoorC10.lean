/-
  WALKS of the reader, 10: a name is taken.
-/
import Derived.Test.YtpbjdfobbnpjfaaDoorC8
namespace Go.Proofs.YtpbjdfobbnpjfaaDoor
open Go.RowKit

theorem lastD_get (l : Ds) (k : Nat) (h : l.length = k + 1) : lastD l = l[k]'(by omega) := by simp [lastD, h, List.getD]
theorem setD_set (l : Ds) (k : Nat) (h : l.length = k + 1) (x : ByteArray × ByteArray) : setD l x = l.set k x := by simp [setD, h]
/-- A cell of an open directory is stored, and the path. -/
theorem RM.dirPath {B R : Nat} {w : World} {left lst nds : Value} {gD n cap : Nat} {pos : Nat} {list : List It} {g : Gr} (h : RM B R w left lst nds (.slice (some ⟨gD, 0, none⟩) n cap) pos list g) (k : Nat) (hk : g.dirs.length = k + 1) (s path' : ByteArray) :
    RM B R ((w.setCell ⟨gD, k * 2 + 1, none⟩ (.string s)).setCell ⟨R, 7, none⟩ (.string path')) left lst nds (.slice (some ⟨gD, 0, none⟩) n cap) pos list ⟨g.nodes, setD g.dirs ((lastD g.dirs).1, s), path'⟩ ∧ Below B w ((w.setCell ⟨gD, k * 2 + 1, none⟩ (.string s)).setCell ⟨R, 7, none⟩ (.string path')) ∧ KT TS w ((w.setCell ⟨gD, k * 2 + 1, none⟩ (.string s)).setCell ⟨R, 7, none⟩ (.string path')) := by
  rw [lastD_get _ k hk, setD_set _ k hk]
  have hk' : k < g.dirs.length := by omega
  obtain rfl : n = g.dirs.length := by
    obtain ⟨a, c, hv, _⟩ := own_slice h.dr
    injection hv
  obtain ⟨cN, fN, hN⟩ := own_kind h.dr gD rfl
  have hRg : R ≠ gD := fun e => h.rows h.dr (by decide) (by simp [Value.ownBlock, e])
  have hR1 : (w.setCell ⟨gD, k * 2 + 1, none⟩ (.string s)).heap[R]? = some (.cells #[left, .int .i64 pos, lst, .int .i64 0, .int .i64 0, nds, .slice (some ⟨gD, 0, none⟩) g.dirs.length cap, .string g.path] 61 (0, 0)) := by
    rw [Below.heap_setCell _ _ _ _ hRg]; exact h.blk
  have hk2 : KT TS w ((w.setCell ⟨gD, k * 2 + 1, none⟩ (.string s)).setCell ⟨R, 7, none⟩ (.string path')) := ((KT.refl TS w).set hN (by decide) _ _).set hR1 (by decide) _ _
  obtain ⟨ivs, h1, h2⟩ := h.its
  have hne : ∀ {e : TypeId} {s n : Nat} {u : Value} {xs : List Value}, w.ownsRow B e s u n xs → e ≠ 87 → u.ownBlock ≠ some gD := fun ho he e' => by
    obtain ⟨c, fz, hc⟩ := own_kind ho gD e'
    rw [hN] at hc
    injection hc with hc
    injection hc with _ hc _
    exact he hc.symm
  obtain ⟨o1, _⟩ := h.dr.stored (k * 2 + 1) (.string s)
  have hflat := flat2_set g.dirs k hk' s
  rw [hflat] at o1
  refine ⟨⟨block_set hR1 7 _, h.BR, ⟨ivs, h1.kept hk2 (by decide), ?_⟩, ?_, ?_⟩, ((Below.refl B w).setCell ((h.dr.lt gD rfl).1) _).setCell h.BR _, hk2⟩
  · exact ownsRow_setCell_other (ownsRow_setCell_other h2 (hne h2 (by decide)) _) (h.rows h2 (by decide)) _
  · exact ownsRow_setCell_other (ownsRow_setCell_other h.nd (hne h.nd (by decide)) _) (h.rows h.nd (by decide)) _
  · refine ownsRow_setCell_other ?_ (h.rows h.dr (by decide)) _
    rw [List.length_set]; exact o1

set_option maxRecDepth 20000 in
set_option maxHeartbeats 2000000 in
theorem takeName_any {B R : Nat} {w : World} {left lst nds drs : Value} {pos : Nat} {list : List It} {g : Gr} (h : RM B R w left lst nds drs pos list g) (hbd : Bd list g) (hne : g.dirs ≠ []) (s : ByteArray) (hs : s.size ≤ 1000000) (hT : Lib.Utf8Tabs 0 1 w) :
    Calls Tryd.prog 63 #[.pointer (some ⟨R, 0, none⟩), .string s] w (TakePost B R w left pos list (takeF g .name s)) := by
  obtain ⟨k, hk⟩ : ∃ k, g.dirs.length = k + 1 := ⟨g.dirs.length - 1, by have := List.length_pos_iff.2 hne; omega⟩
  have hkd := hbd.ld
  obtain ⟨gD, capD, rfl, hcD⟩ := own_form h.dr (by omega)
  rw [hk] at hcD
  have hk' : k < g.dirs.length := by omega
  obtain ⟨x, hx⟩ : ∃ x, g.dirs[k] = x := ⟨_, rfl⟩
  have hxs : x.1.size ≤ 100000000 := hbd.dp x (by rw [← hx]; exact List.getElem_mem _)
  have hBw : B ≤ w.heap.size := by have := h.lt; have := h.BR; omega
  obtain ⟨T, hTk⟩ : ∃ T, takeF g .name s = T := ⟨_, rfl⟩
  rw [hTk]
  rw [take_name] at hTk
  have hlast : lastD g.dirs = x := by rw [lastD_get _ k hk, hx]
  rw [hlast] at hTk
  have c6 : w.cell? ⟨R, 6, none⟩ = some (.slice (some ⟨gD, 0, none⟩) (k + 1) capD) := by simp [World.cell?, h.blk, hk]
  have f0 := flat2_0 g.dirs k hk'
  have f1 := flat2_1 g.dirs k hk'
  rw [hx] at f0 f1
  have H := hide h
  have HT := hide hT
  clear h hne hT
  by_cases hn : isNameB s.data.toList = false
  · rw [if_pos hn] at hTk
    subst hTk
    go_enter Tryd.func63, Tryd.ntmps63
    go_wp2
    go_quiet (fail)
    have cI := hide (isName_any s (w.drewN nq) (by omega) (Utf8Tabs_below HT.out (drewNB w nq)))
    rw [hn] at cI
    go_wp2_with fail
    refine cI.out.mono ?_
    rintro e w2 ⟨rfl, hb2⟩
    clear cI
    go_wp2
    go_ret
    exact ⟨rfl, (drewNB w nq).trans (hb2.mono (drewNB w nq).size)⟩
  · rw [if_neg hn] at hTk
    have hn' : isNameB s.data.toList = true := by simpa using hn
    clear hn
    by_cases ha : notAbove s x.2 = true
    · rw [if_pos ha] at hTk
      subst hTk
      unfold notAbove at ha
      go_enter Tryd.func63, Tryd.ntmps63
      go_wp2
      go_quiet (fail)
      have cI := hide (isName_any s (w.drewN nq) (by omega) (Utf8Tabs_below HT.out (drewNB w nq)))
      rw [hn'] at cI
      go_wp2_with fail
      refine cI.out.mono ?_
      rintro e w2 ⟨rfl, hb2⟩
      clear cI
      have hb3 := (drewNB w nq).trans (hb2.mono (drewNB w nq).size)
      have o3 := own_below H.out.dr hb3
      have e1 : w2.cell? ⟨gD, k * 2 + 1, none⟩ = some (.string x.2) := (o3.cellAt _ (by omega)).trans f1
      clear c6
      go_wp2
      go_ret
      exact ⟨rfl, hb3⟩
    · rw [if_neg ha] at hTk
      subst hTk
      have ha' : notAbove s x.2 = false := by simpa using ha
      unfold notAbove at ha'
      clear ha
      go_enter Tryd.func63, Tryd.ntmps63
      go_wp2
      go_quiet (fail)
      have cI := hide (isName_any s (w.drewN nq) (by omega) (Utf8Tabs_below HT.out (drewNB w nq)))
      rw [hn'] at cI
      go_wp2_with fail
      refine cI.out.mono ?_
      rintro e w2 ⟨rfl, hb2⟩
      clear cI
      have hb3 := (drewNB w nq).trans (hb2.mono (drewNB w nq).size)
      have h3 := H.out.new hb3
      have o3 := h3.dr
      have e0 : w2.cell? ⟨gD, k * 2, none⟩ = some (.string x.1) := (o3.cellAt _ (by omega)).trans f0
      have e1 : w2.cell? ⟨gD, k * 2 + 1, none⟩ = some (.string x.2) := (o3.cellAt _ (by omega)).trans f1
      have z1 : w2.frozen? ⟨gD, k * 2 + 1, none⟩ = false := o3.frozenAt _
      have hRg : R ≠ gD := fun e => h3.rows h3.dr (by decide) (by simp [Value.ownBlock, e])
      obtain ⟨o4, _⟩ := h3.dr.stored (k * 2 + 1) (.string s)
      have e2 : (w2.setCell ⟨gD, k * 2 + 1, none⟩ (.string s)).cell? ⟨gD, k * 2, none⟩ = some (.string x.1) := (o4.cellAt _ (by omega)).trans (by rw [List.getElem?_set_ne (by omega)]; exact f0)
      have hR4 : (w2.setCell ⟨gD, k * 2 + 1, none⟩ (.string s)).heap[R]? = _ := (Below.heap_setCell w2 ⟨gD, k * 2 + 1, none⟩ (.string s) R hRg).trans h3.blk
      have e7 : (w2.setCell ⟨gD, k * 2 + 1, none⟩ (.string s)).cell? ⟨R, 7, none⟩ = some (.string g.path) := by simp [World.cell?, hR4]
      have z7 : (w2.setCell ⟨gD, k * 2 + 1, none⟩ (.string s)).frozen? ⟨R, 7, none⟩ = false := by simp [World.frozen?, hR4]
      have H3 := hide h3
      clear c6 h3 hR4 o3 o4
      go_wp2
      go_ret
      obtain ⟨a1, a2, a3⟩ := H3.out.dirPath k hk s (x.1 ++ s)
      rw [hlast] at a1
      exact ⟨rfl, _, _, _, a1, (hb3.mono hBw).trans a2, (KT.new TS hb3).trans a3⟩
end Go.Proofs.YtpbjdfobbnpjfaaDoor
