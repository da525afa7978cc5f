/-
  Rows of nodes; the three rows that narkeep.grown keeps.
-/
import Derived.Test.YtpbjdfobbnpjfaaDoorBS
import Derived.Test.YtpbjdfobbnpjfaaDoorW7
import Derived.Test.YtpbjdfobbnpjfaaDoorG3
import Derived.Laws.AppendOwnNone
namespace Go.Proofs.YtpbjdfobbnpjfaaDoor
open Go.RowKit

theorem own_ne {w : World} {B B' : Nat} {e e' : TypeId} {s s' : Nat} {v v' : Value} {n n' : Nat} {xs xs' : List Value} (h : w.ownsRow B e s v n xs) (h' : w.ownsRow B' e' s' v' n' xs') (hne : e ≠ e') : v.ownBlock = none ∨ v.ownBlock ≠ v'.ownBlock := by
  cases hv : v.ownBlock with
  | none => exact .inl rfl
  | some g =>
    right
    intro e2
    obtain ⟨c, fz, hc⟩ := own_kind h g hv
    obtain ⟨c', fz', hc'⟩ := own_kind h' g e2.symm
    rw [hc] at hc'
    injection hc' with hc'
    injection hc' with _ hc' _
    exact hne hc'
/-- The nodes, the paths above, the last numbers. -/
structure GW (w0 w : World) (vl va vt : Value) (l : List Nd) (ab : List ByteArray) (la : List Int) : Prop where
  rl : w.ownsRow w0.heap.size 37 3 vl l.length (flat3 l)
  ra : w.ownsRow w0.heap.size 9 1 va ab.length (ab.map .string)
  rt : w.ownsRow w0.heap.size 3 1 vt la.length (la.map (.int .i64))
  bel : Below w0.heap.size w0 w
theorem GW.alloc {w0 w : World} {vl va vt : Value} {l : List Nd} {ab : List ByteArray} {la : List Int} (h : GW w0 w vl va vt l ab la) (o : Obj) : GW w0 (w.alloc o) vl va vt l ab la :=
  ⟨h.rl.alloc o, h.ra.alloc o, h.rt.alloc o, h.bel.alloc h.bel.size o⟩
theorem GW.kept {w0 w w' : World} {vl va vt : Value} {l : List Nd} {ab : List ByteArray} {la : List Int} (h : GW w0 w vl va vt l ab la) (hb : Below w.heap.size w w') : GW w0 w' vl va vt l ab la :=
  ⟨own_below h.rl hb, own_below h.ra hb, own_below h.rt hb, h.bel.trans (hb.mono h.bel.size)⟩
theorem GW.newL {w0 w w' : World} {vl va vt vl' : Value} {l l' : List Nd} {ab : List ByteArray} {la : List Int} (h : GW w0 w vl va vt l ab la) (hg : w.grownBy w' vl.ownBlock) (hn : w'.ownsRow w0.heap.size 37 3 vl' l'.length (flat3 l')) : GW w0 w' vl' va vt l' ab la :=
  ⟨hn, h.ra.kept hg (own_ne h.ra h.rl (by decide)), h.rt.kept hg (own_ne h.rt h.rl (by decide)), h.bel.grown hg h.bel.size (fun k hk => (h.rl.lt k hk).1)⟩
theorem GW.newA {w0 w w' : World} {vl va vt va' : Value} {l : List Nd} {ab ab' : List ByteArray} {la : List Int} (h : GW w0 w vl va vt l ab la) (hg : w.grownBy w' va.ownBlock) (hn : w'.ownsRow w0.heap.size 9 1 va' ab'.length (ab'.map .string)) : GW w0 w' vl va' vt l ab' la :=
  ⟨h.rl.kept hg (own_ne h.rl h.ra (by decide)), hn, h.rt.kept hg (own_ne h.rt h.ra (by decide)), h.bel.grown hg h.bel.size (fun k hk => (h.ra.lt k hk).1)⟩
theorem GW.newT {w0 w w' : World} {vl va vt vt' : Value} {l : List Nd} {ab : List ByteArray} {la la' : List Int} (h : GW w0 w vl va vt l ab la) (hg : w.grownBy w' vt.ownBlock) (hn : w'.ownsRow w0.heap.size 3 1 vt' la'.length (la'.map (.int .i64))) : GW w0 w' vl va vt' l ab la' :=
  ⟨h.rl.kept hg (own_ne h.rl h.rt (by decide)), h.ra.kept hg (own_ne h.ra h.rt (by decide)), hn, h.bel.grown hg h.bel.size (fun k hk => (h.rt.lt k hk).1)⟩
/-- One of the paths above is left. -/
theorem GW.pop {w0 w : World} {vl : Value} {g cap g' cap' : Nat} {l : List Nd} {ab : List ByteArray} {la : List Int} (h : GW w0 w vl (.slice (some ⟨g, 0, none⟩) ab.length cap) (.slice (some ⟨g', 0, none⟩) la.length cap') l ab la) (m : Nat) (hm : m ≤ ab.length) (hm' : m ≤ la.length) :
    GW w0 w vl (.slice (some ⟨g, 0, none⟩) m cap) (.slice (some ⟨g', 0, none⟩) m cap') l (ab.take m) (la.take m) := by
  have h1 := own_take h.ra hm
  have h2 := own_take h.rt hm'
  rw [Nat.mul_one, ← List.map_take] at h1 h2
  have e1 : (ab.take m).length = m := by rw [List.length_take]; omega
  have e2 : (la.take m).length = m := by rw [List.length_take]; omega
  exact ⟨h.rl, by rw [e1]; exact h1, by rw [e2]; exact h2, h.bel⟩
/-- The last number is set. -/
theorem GW.setLast {w0 w : World} {vl va : Value} {g cap : Nat} {l : List Nd} {ab : List ByteArray} {la : List Int} (h : GW w0 w vl va (.slice (some ⟨g, 0, none⟩) la.length cap) l ab la) (top : Nat) (z : Int) :
    GW w0 (w.setCell ⟨g, top, none⟩ (.int .i64 z)) vl va (.slice (some ⟨g, 0, none⟩) la.length cap) l ab (la.set top z) := by
  obtain ⟨h1, h2⟩ := h.rt.stored top (.int .i64 z)
  refine h.newT h2 ?_
  rw [List.length_set, List.map_set]
  exact h1
/-- A cell of a block that is none of the rows'. -/
theorem GW.setBox {w0 w : World} {vl va vt : Value} {l : List Nd} {ab : List ByteArray} {la : List Int} (h : GW w0 w vl va vt l ab la) (a : Addr) (u : Value) (ha : w0.heap.size ≤ a.block) (hl : vl.ownBlock ≠ some a.block) (hva : va.ownBlock ≠ some a.block) (hvt : vt.ownBlock ≠ some a.block) :
    GW w0 (w.setCell a u) vl va vt l ab la :=
  ⟨ownsRow_setCell_other h.rl hl u, ownsRow_setCell_other h.ra hva u, ownsRow_setCell_other h.rt hvt u, h.bel.setCell ha u⟩
end Go.Proofs.YtpbjdfobbnpjfaaDoor
