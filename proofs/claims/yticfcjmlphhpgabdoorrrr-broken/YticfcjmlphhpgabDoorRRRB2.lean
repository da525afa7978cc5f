/-
  Rows of nodes; the three rows that narkeep.grown keeps.
-/
import Derived.Test.YticfcjmlphhpgabDoorRRRB1
import Derived.Laws.AppendOwnNone
namespace Go.Proofs.YticfcjmlphhpgabDoorRRR
open Go.RowKit

def flat3 : List Nd → List Value
  | [] => []
  | n :: r => .string n.path :: .int .i64 n.kind :: .string n.data :: flat3 r
theorem flat3_length : ∀ ns, (flat3 ns).length = ns.length * 3
  | [] => rfl
  | n :: r => by simp only [flat3, List.length_cons, flat3_length r]; omega
theorem flat3_get : ∀ (ns : List Nd) (j : Nat) (h : j < ns.length), (flat3 ns)[j * 3]? = some (.string ns[j].path) ∧ (flat3 ns)[j * 3 + 1]? = some (.int .i64 ns[j].kind) ∧ (flat3 ns)[j * 3 + 2]? = some (.string ns[j].data)
  | [], j, h => by simp at h
  | n :: r, 0, h => by simp [flat3]
  | n :: r, j + 1, h => by
    have := flat3_get r j (by simpa using h)
    rw [show (j + 1) * 3 = j * 3 + 1 + 1 + 1 by omega]
    simpa [flat3] using this
theorem flat3_one : ∀ (ns : List Nd), ∀ u ∈ flat3 ns, u.oneCell' = true
  | [], u, h => by cases h
  | n :: r, u, h => by
    simp only [flat3, List.mem_cons] at h
    rcases h with rfl | rfl | rfl | h
    · rfl
    · rfl
    · rfl
    · exact flat3_one r u h
/-- Nodes in memory, cell by cell. -/
theorem NodesAt.cells {w : World} {b off : Nat} : ∀ {ns : List Nd}, NodesAt w b off ns → ∀ j u, (flat3 ns)[j]? = some u → w.cell? ((⟨b, off, none⟩ : Addr).add j) = some u := by
  intro ns h j u hj
  have hl : j < ns.length * 3 := by rw [← flat3_length]; exact (List.getElem?_eq_some_iff.1 hj).1
  have hd : j / 3 < ns.length := by omega
  obtain ⟨g0, g1, g2⟩ := flat3_get ns (j / 3) hd
  obtain ⟨c0, c1, c2⟩ := h (j / 3) hd
  have ha : (⟨b, off, none⟩ : Addr).add j = ⟨b, off + j, none⟩ := by unfold Addr.add; split <;> simp_all
  rw [ha]
  rcases (show j = j / 3 * 3 ∨ j = j / 3 * 3 + 1 ∨ j = j / 3 * 3 + 2 by omega) with e | e | e
  · rw [e] at hj ⊢; rw [g0] at hj; rw [← hj]; exact c0
  · rw [e] at hj ⊢; rw [g1] at hj; rw [← hj, ← Nat.add_assoc]; exact c1
  · rw [e] at hj ⊢; rw [g2] at hj; rw [← hj, ← Nat.add_assoc]; exact c2
/-- An owned row of nodes. -/
theorem own_nodes {w : World} {B : Nat} {v : Value} {ns : List Nd} (h : w.ownsRow B 30 3 v ns.length (flat3 ns)) : SliceN w v ns ∧ (0 < ns.length → ∃ g cap, v = .slice (some ⟨g, 0, none⟩) ns.length cap ∧ g < w.heap.size ∧ NodesAt w g 0 ns) := by
  rcases h.2 with ⟨hv, h0⟩ | ⟨g, cap, cur, hv, hg1, hg2, hg3, hg4, hg5, hg6⟩
  · have : ns = [] := List.eq_nil_of_length_eq_zero h0
    subst this
    refine ⟨⟨none, 0, hv, by simp, by simp [maxLen], fun _ => rfl, fun h => by simp at h⟩, fun h => by simp at h⟩
  · have hlt := lt_of_block hg2
    have hN : NodesAt w g 0 ns := fun j hj => by
      subst hv
      obtain ⟨g0, g1, g2⟩ := flat3_get ns j hj
      rw [Nat.zero_add]
      exact ⟨(h.cellAt (j * 3) (by omega)).trans g0, (h.cellAt (j * 3 + 1) (by omega)).trans g1, (h.cellAt (j * 3 + 2) (by omega)).trans g2⟩
    exact ⟨⟨_, cap, hv, hg3, hg4, (fun h => by cases h), fun _ => ⟨g, 0, rfl, hlt, hN⟩⟩, fun _ => ⟨g, cap, hv, hlt, hN⟩⟩
theorem flat3_append : ∀ (a b : List Nd), flat3 (a ++ b) = flat3 a ++ flat3 b
  | [], b => rfl
  | n :: r, b => by simp [flat3, flat3_append r b]
theorem flat3_set : ∀ (ns : List Nd) (k : Nat) (x : Nd), k < ns.length → flat3 (ns.set k x) = (((flat3 ns).set (k * 3) (.string x.path)).set (k * 3 + 1) (.int .i64 x.kind)).set (k * 3 + 2) (.string x.data)
  | [], k, x, h => by simp at h
  | n :: r, 0, x, _ => by simp [flat3]
  | n :: r, k + 1, x, h => by
    have := flat3_set r k x (by simpa using h)
    rw [show (k + 1) * 3 = k * 3 + 1 + 1 + 1 by omega]
    simp [flat3, this]

theorem own_ne {w : World} {B B' : Nat} {e e' : TypeId} {s s' : Nat} {v v' : Value} {n n' : Nat} {xs xs' : List Value} (h : w.ownsRow B e s v n xs) (h' : w.ownsRow B' e' s' v' n' xs') (hne : e ≠ e') : v.ownBlock = none ∨ v.ownBlock ≠ v'.ownBlock := by
  cases hv : v.ownBlock with
  | none => exact .inl rfl
  | some g =>
    right
    intro e2
    obtain ⟨c, fz, hc⟩ := own_kind h g hv
    obtain ⟨c', fz', hc'⟩ := own_kind h' g e2.symm
    rw [hc] at hc'
    injection hc' with hc'
    injection hc' with _ hc' _
    exact hne hc'
/-- The nodes, the paths above, the last numbers. -/
structure GW (w0 w : World) (vl va vt : Value) (l : List Nd) (ab : List ByteArray) (la : List Int) : Prop where
  rl : w.ownsRow w0.heap.size 30 3 vl l.length (flat3 l)
  ra : w.ownsRow w0.heap.size 9 1 va ab.length (ab.map .string)
  rt : w.ownsRow w0.heap.size 3 1 vt la.length (la.map (.int .i64))
  bel : Below w0.heap.size w0 w
theorem GW.alloc {w0 w : World} {vl va vt : Value} {l : List Nd} {ab : List ByteArray} {la : List Int} (h : GW w0 w vl va vt l ab la) (o : Obj) : GW w0 (w.alloc o) vl va vt l ab la :=
  ⟨h.rl.alloc o, h.ra.alloc o, h.rt.alloc o, h.bel.alloc h.bel.size o⟩
theorem GW.kept {w0 w w' : World} {vl va vt : Value} {l : List Nd} {ab : List ByteArray} {la : List Int} (h : GW w0 w vl va vt l ab la) (hb : Below w.heap.size w w') : GW w0 w' vl va vt l ab la :=
  ⟨own_below h.rl hb, own_below h.ra hb, own_below h.rt hb, h.bel.trans (hb.mono h.bel.size)⟩
theorem GW.newL {w0 w w' : World} {vl va vt vl' : Value} {l l' : List Nd} {ab : List ByteArray} {la : List Int} (h : GW w0 w vl va vt l ab la) (hg : w.grownBy w' vl.ownBlock) (hn : w'.ownsRow w0.heap.size 30 3 vl' l'.length (flat3 l')) : GW w0 w' vl' va vt l' ab la :=
  ⟨hn, h.ra.kept hg (own_ne h.ra h.rl (by decide)), h.rt.kept hg (own_ne h.rt h.rl (by decide)), h.bel.grown hg h.bel.size (fun k hk => (h.rl.lt k hk).1)⟩
theorem GW.newA {w0 w w' : World} {vl va vt va' : Value} {l : List Nd} {ab ab' : List ByteArray} {la : List Int} (h : GW w0 w vl va vt l ab la) (hg : w.grownBy w' va.ownBlock) (hn : w'.ownsRow w0.heap.size 9 1 va' ab'.length (ab'.map .string)) : GW w0 w' vl va' vt l ab' la :=
  ⟨h.rl.kept hg (own_ne h.rl h.ra (by decide)), hn, h.rt.kept hg (own_ne h.rt h.ra (by decide)), h.bel.grown hg h.bel.size (fun k hk => (h.ra.lt k hk).1)⟩
theorem GW.newT {w0 w w' : World} {vl va vt vt' : Value} {l : List Nd} {ab : List ByteArray} {la la' : List Int} (h : GW w0 w vl va vt l ab la) (hg : w.grownBy w' vt.ownBlock) (hn : w'.ownsRow w0.heap.size 3 1 vt' la'.length (la'.map (.int .i64))) : GW w0 w' vl va vt' l ab la' :=
  ⟨h.rl.kept hg (own_ne h.rl h.rt (by decide)), h.ra.kept hg (own_ne h.ra h.rt (by decide)), hn, h.bel.grown hg h.bel.size (fun k hk => (h.rt.lt k hk).1)⟩
/-- One of the paths above is left. -/
theorem GW.pop {w0 w : World} {vl : Value} {g cap g' cap' : Nat} {l : List Nd} {ab : List ByteArray} {la : List Int} (h : GW w0 w vl (.slice (some ⟨g, 0, none⟩) ab.length cap) (.slice (some ⟨g', 0, none⟩) la.length cap') l ab la) (m : Nat) (hm : m ≤ ab.length) (hm' : m ≤ la.length) :
    GW w0 w vl (.slice (some ⟨g, 0, none⟩) m cap) (.slice (some ⟨g', 0, none⟩) m cap') l (ab.take m) (la.take m) := by
  have h1 := own_take h.ra hm
  have h2 := own_take h.rt hm'
  rw [Nat.mul_one, ← List.map_take] at h1 h2
  have e1 : (ab.take m).length = m := by rw [List.length_take]; omega
  have e2 : (la.take m).length = m := by rw [List.length_take]; omega
  exact ⟨h.rl, by rw [e1]; exact h1, by rw [e2]; exact h2, h.bel⟩
/-- The last number is set. -/
theorem GW.setLast {w0 w : World} {vl va : Value} {g cap : Nat} {l : List Nd} {ab : List ByteArray} {la : List Int} (h : GW w0 w vl va (.slice (some ⟨g, 0, none⟩) la.length cap) l ab la) (top : Nat) (z : Int) :
    GW w0 (w.setCell ⟨g, top, none⟩ (.int .i64 z)) vl va (.slice (some ⟨g, 0, none⟩) la.length cap) l ab (la.set top z) := by
  obtain ⟨h1, h2⟩ := h.rt.stored top (.int .i64 z)
  refine h.newT h2 ?_
  rw [List.length_set, List.map_set]
  exact h1
/-- A cell of a block that is none of the rows'. -/
theorem GW.setBox {w0 w : World} {vl va vt : Value} {l : List Nd} {ab : List ByteArray} {la : List Int} (h : GW w0 w vl va vt l ab la) (a : Addr) (u : Value) (ha : w0.heap.size ≤ a.block) (hl : vl.ownBlock ≠ some a.block) (hva : va.ownBlock ≠ some a.block) (hvt : vt.ownBlock ≠ some a.block) :
    GW w0 (w.setCell a u) vl va vt l ab la :=
  ⟨ownsRow_setCell_other h.rl hl u, ownsRow_setCell_other h.ra hva u, ownsRow_setCell_other h.rt hvt u, h.bel.setCell ha u⟩
end Go.Proofs.YticfcjmlphhpgabDoorRRR
