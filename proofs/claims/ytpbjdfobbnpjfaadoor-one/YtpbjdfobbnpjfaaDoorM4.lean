/-
  PLAIN MATHEMATICS, 4: nodes; where a list is no tree, as the program goes.
-/
import Derived.Test.YtpbjdfobbnpjfaaDoorM3
namespace Go.Proofs.YtpbjdfobbnpjfaaDoor
open Go.RowKit

structure Nd where
  path : ByteArray
  kind : Int
  data : ByteArray

/-- Nodes in memory, from a place on. -/
def NodesAt (w : World) (b off : Nat) (ns : List Nd) : Prop :=
  ∀ j (h : j < ns.length), w.cell? ⟨b, off + j * 3, none⟩ = some (.string ns[j].path) ∧ w.cell? ⟨b, off + j * 3 + 1, none⟩ = some (.int .i64 ns[j].kind) ∧ w.cell? ⟨b, off + j * 3 + 2, none⟩ = some (.string ns[j].data)
/-- A slice of nodes. -/
def SliceN (w : World) (v : Value) (ns : List Nd) : Prop :=
  ∃ a cap, v = .slice a ns.length cap ∧ ns.length ≤ cap ∧ cap ≤ maxLen ∧ (a = none → cap = 0) ∧ (0 < ns.length → ∃ b off, a = some ⟨b, off, none⟩ ∧ b < w.heap.size ∧ NodesAt w b off ns)
/-- Lists within what is spoken of. -/
def Small (ns : List Nd) : Prop := ns.length ≤ 1000000 ∧ ∀ n ∈ ns, n.path.size ≤ 1000000 ∧ n.data.size ≤ 1000000
theorem NodesAt.below {w w' : World} {b off B : Nat} {ns : List Nd} (h : NodesAt w b off ns) (hb : Below B w w') (hB : b < B) : NodesAt w' b off ns := fun j hj => by
  rw [hb.cell (p := ⟨b, _, none⟩) hB, hb.cell (p := ⟨b, _, none⟩) hB, hb.cell (p := ⟨b, _, none⟩) hB]
  exact h j hj
theorem NodesAt.tail {w : World} {b off : Nat} {n : Nd} {r : List Nd} (h : NodesAt w b off (n :: r)) : NodesAt w b (off + 3) r := fun j hj => by
  have := h (j + 1) (by simpa using hj)
  rw [show off + (j + 1) * 3 = off + 3 + j * 3 by omega] at this
  exact this
theorem SliceN.below {w w' : World} {v : Value} {ns : List Nd} (h : SliceN w v ns) (hb : Below w.heap.size w w') : SliceN w' v ns := by
  obtain ⟨a, cap, rfl, h1, h2, h3, h4⟩ := h
  refine ⟨a, cap, rfl, h1, h2, h3, fun hn => ?_⟩
  obtain ⟨b, off, rfl, hlt, hN⟩ := h4 hn
  exact ⟨b, off, rfl, by have := hb.size; omega, hN.below hb hlt⟩
theorem Small.tail {n : Nd} {r : List Nd} (h : Small (n :: r)) : Small r := ⟨by have := h.1; simp at this; omega, fun x hx => h.2 x (List.mem_cons_of_mem _ hx)⟩
end Go.Proofs.YtpbjdfobbnpjfaaDoor
