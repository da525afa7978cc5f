/-
  WALKS of the reader, 8: a file's bytes, and a name, are taken.
-/
import Derived.Test.YtpbjdfobbnpjfaaDoorC7
namespace Go.Proofs.YtpbjdfobbnpjfaaDoor
open Go.RowKit

theorem set_same {l : List Value} {j : Nat} {v : Value} (h : l[j]? = some v) : l.set j v = l := by
  have hj := (List.getElem?_eq_some_iff.1 h)
  obtain ⟨h1, h2⟩ := hj
  rw [← h2, List.set_getElem_self]
theorem flat3_data (l : List Nd) (k : Nat) (hk : k < l.length) (s : ByteArray) : flat3 (l.set k ⟨l[k].path, l[k].kind, s⟩) = (flat3 l).set (k * 3 + 2) (.string s) := by
  obtain ⟨f0, f1, f2⟩ := flat3_get l k hk
  rw [flat3_set l k _ hk, set_same f0, set_same f1]
theorem flat3_kind (l : List Nd) (k : Nat) (hk : k < l.length) (z : Int) : flat3 (l.set k ⟨l[k].path, z, l[k].data⟩) = (flat3 l).set (k * 3 + 1) (.int .i64 z) := by
  obtain ⟨f0, f1, f2⟩ := flat3_get l k hk
  rw [flat3_set l k _ hk, set_same f0]
  exact set_same (by rw [List.getElem?_set_ne (by omega)]; exact f2)
theorem RM.rows {B R : Nat} {w : World} {left lst nds drs : Value} {pos : Nat} {list : List It} {g : Gr} (h : RM B R w left lst nds drs pos list g) {e : TypeId} {s n : Nat} {v : Value} {xs : List Value} (ho : w.ownsRow B e s v n xs) (he : e ≠ 61) : v.ownBlock ≠ some R := fun e' => by
  obtain ⟨c, fz, hc⟩ := own_kind ho R e'
  rw [h.blk] at hc
  injection hc with hc
  injection hc with _ hc _
  exact he hc.symm
/-- A cell of a node is stored. -/
theorem RM.node {B R : Nat} {w : World} {left lst drs : Value} {gN n cap : Nat} {pos : Nat} {list : List It} {g : Gr} (h : RM B R w left lst (.slice (some ⟨gN, 0, none⟩) n cap) drs pos list g) (j : Nat) (v : Value) (nodes' : List Nd) (hlen : nodes'.length = g.nodes.length) (hf : flat3 nodes' = (flat3 g.nodes).set j v) :
    RM B R (w.setCell ⟨gN, j, none⟩ v) left lst (.slice (some ⟨gN, 0, none⟩) n cap) drs pos list ⟨nodes', g.dirs, g.path⟩ ∧ Below B w (w.setCell ⟨gN, j, none⟩ v) ∧ KT TS w (w.setCell ⟨gN, j, none⟩ v) := by
  obtain ⟨cN, fN, hN⟩ := own_kind h.nd gN rfl
  have hRg : R ≠ gN := fun e => h.rows h.nd (by decide) (by simp [Value.ownBlock, e])
  have hk : KT TS w (w.setCell ⟨gN, j, none⟩ v) := (KT.refl TS w).set hN (by decide) j v
  obtain ⟨ivs, h1, h2⟩ := h.its
  have hne : ∀ {e : TypeId} {s n : Nat} {u : Value} {xs : List Value}, w.ownsRow B e s u n xs → e ≠ 37 → u.ownBlock ≠ some gN := fun ho he e' => by
    obtain ⟨c, fz, hc⟩ := own_kind ho gN e'
    rw [hN] at hc
    injection hc with hc
    injection hc with _ hc _
    exact he hc.symm
  obtain rfl : n = g.nodes.length := by
    obtain ⟨a, c, hv, _⟩ := own_slice h.nd
    injection hv
  obtain ⟨o1, _⟩ := h.nd.stored j v
  refine ⟨⟨?_, h.BR, ⟨ivs, h1.kept hk (by decide), ownsRow_setCell_other h2 (hne h2 (by decide)) _⟩, ?_, ownsRow_setCell_other h.dr (hne h.dr (by decide)) _⟩, (Below.refl B w).setCell ((h.nd.lt gN rfl).1) _, hk⟩
  · rw [Below.heap_setCell _ _ _ _ hRg]; exact h.blk
  · rw [hlen, hf]; exact o1
theorem lastN_get (l : List Nd) (k : Nat) (h : l.length = k + 1) : lastN l = l[k]'(by omega) := by simp [lastN, h, List.getD]
theorem setN_set (l : List Nd) (k : Nat) (h : l.length = k + 1) (x : Nd) : setN l x = l.set k x := by simp [setN, h]
theorem drewNB (w : World) (q : Nat) : Below w.heap.size w (w.drewN q) := below_drewN (Below.refl _ w) q

set_option maxRecDepth 20000 in
set_option maxHeartbeats 1000000 in
theorem takeData_any {B R : Nat} {w : World} {left lst nds drs : Value} {pos : Nat} {list : List It} {g : Gr} (h : RM B R w left lst nds drs pos list g) (hbd : Bd list g) (hne : g.nodes ≠ []) (s : ByteArray) (hs : s.size ≤ 1000000) :
    Calls Tryd.prog 62 #[.pointer (some ⟨R, 0, none⟩), .string s] w (TakePost B R w left pos list (takeF g .data s)) := by
  obtain ⟨k, hk⟩ : ∃ k, g.nodes.length = k + 1 := ⟨g.nodes.length - 1, by have := List.length_pos_iff.2 hne; omega⟩
  have hk30 := hbd.ln
  obtain ⟨gN, capN, rfl, hcN⟩ := own_form h.nd (by omega)
  rw [hk] at hcN
  have hk' : k < g.nodes.length := by omega
  obtain ⟨x, hx⟩ : ∃ x, g.nodes[k] = x := ⟨_, rfl⟩
  obtain ⟨T, hT⟩ : ∃ T, takeF g .data s = T := ⟨_, rfl⟩
  rw [hT]
  rw [take_data, lastN_get _ k hk, setN_set _ k hk, hx] at hT
  have c5 : w.cell? ⟨R, 5, none⟩ = some (.slice (some ⟨gN, 0, none⟩) (k + 1) capN) := by simp [World.cell?, h.blk, hk]
  have cN := hide (newest_any R gN (k + 1) capN w (by omega) hcN c5 (by omega))
  simp only [Nat.add_sub_cancel] at cN
  obtain ⟨f0, f1, f2⟩ := flat3_get g.nodes k hk'
  rw [hx] at f0 f1 f2
  have H := hide h
  have hrow := h.nd
  rw [hk] at hrow
  have d1 : ∀ q, (w.drewN q).cell? ⟨gN, k * 3 + 1, none⟩ = some (.int .i64 x.kind) := fun q => (own_drewN hrow q).cellAt (k * 3 + 1) (by omega) |>.trans f1
  have d2 : ∀ q, (w.drewN q).cell? ⟨gN, k * 3 + 2, none⟩ = some (.string x.data) := fun q => (own_drewN hrow q).cellAt (k * 3 + 2) (by omega) |>.trans f2
  have z2 : ∀ q, (w.drewN q).frozen? ⟨gN, k * 3 + 2, none⟩ = false := fun q => (own_drewN hrow q).frozenAt (k * 3 + 2)
  clear h hne hrow f0 f1 f2
  by_cases hf : fits x.kind s.data.toList = true
  · rw [if_pos hf] at hT
    subst hT
    go_enter Tryd.func62, Tryd.ntmps62
    go_wp2_with fail
    refine cN.out.mono ?_
    rintro e w1 ⟨rfl, q, rfl⟩
    have e1 := d1 q
    have e2 := d2 q
    have y2 := z2 q
    have hRM1 := hide (H.out.new (drewNB w q))
    have hB1 : Below B w (w.drewN q) := (drewNB w q).mono (by have := H.out.lt; have := H.out.BR; omega)
    have hK1 : KT TS w (w.drewN q) := KT.new TS (drewNB w q)
    generalize w.drewN q = w1 at e1 e2 y2 hRM1 hB1 hK1
    clear cN d1 d2 z2
    go_wp2_with fail
    refine (dataFits_any x.kind s w1 (by omega)).mono ?_
    rintro e w2 ⟨rfl, rfl⟩
    rw [hf]
    go_wp2
    go_ret
    have hfl := flat3_data g.nodes k hk' s
    rw [hx] at hfl
    obtain ⟨a1, a2, a3⟩ := hRM1.out.node (k * 3 + 2) (.string s) (g.nodes.set k ⟨x.path, x.kind, s⟩) (by rw [List.length_set]) hfl
    exact ⟨rfl, _, _, _, a1, hB1.trans a2, hK1.trans a3⟩
  · rw [if_neg hf] at hT
    subst hT
    have hf' : fits x.kind s.data.toList = false := by simpa using hf
    go_enter Tryd.func62, Tryd.ntmps62
    go_wp2_with fail
    refine cN.out.mono ?_
    rintro e w1 ⟨rfl, q, rfl⟩
    have e1 := d1 q
    have hb1 := drewNB w q
    generalize w.drewN q = w1 at e1 hb1
    clear cN d1 d2 z2
    go_wp2_with fail
    refine (dataFits_any x.kind s w1 (by omega)).mono ?_
    rintro e w2 ⟨rfl, rfl⟩
    rw [hf']
    go_wp2
    go_ret
    exact ⟨rfl, hb1⟩
end Go.Proofs.YtpbjdfobbnpjfaaDoor
