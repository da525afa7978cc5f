import Derived.Test.YticcbaapbnfmmaaDoorP03
import Derived.Laws.AppendOwnNone
import Derived.Deep.CutRange
import Derived.Deep.DeepCutAuto
import Derived.Deep.CutBlock
namespace Go.Proofs.YticcbaapbnfmmaaDoor
open Go.RowKit

def flat3 : List Nd → List Value
  | [] => []
  | n :: r => .string n.path :: .int .i64 n.kind :: .string n.data :: flat3 r
theorem flat3_get : ∀ (ns : List Nd) (j : Nat) (h : j < ns.length), (flat3 ns)[j * 3]? = some (.string ns[j].path) ∧ (flat3 ns)[j * 3 + 1]? = some (.int .i64 ns[j].kind) ∧ (flat3 ns)[j * 3 + 2]? = some (.string ns[j].data)
  | [], j, h => by simp at h
  | n :: r, 0, h => by simp [flat3]
  | n :: r, j + 1, h => by
    have := flat3_get r j (by simpa using h)
    rw [show (j + 1) * 3 = j * 3 + 1 + 1 + 1 by omega]
    simpa [flat3] using this
theorem own_nodes {w : World} {B : Nat} {v : Value} {ns : List Nd} (h : w.ownsRow B 45 3 v ns.length (flat3 ns)) : SliceN w v ns ∧ (0 < ns.length → ∃ g cap, v = .slice (some ⟨g, 0, none⟩) ns.length cap ∧ g < w.heap.size ∧ NodesAt w g 0 ns) := by
  rcases h.2 with ⟨hv, h0⟩ | ⟨g, cap, cur, hv, hg1, hg2, hg3, hg4, hg5, hg6⟩
  · have : ns = [] := List.eq_nil_of_length_eq_zero h0
    subst this
    refine ⟨⟨none, 0, hv, by simp, by simp [maxLen], fun _ => rfl, fun h => by simp at h⟩, fun h => by simp at h⟩
  · have hlt := lt_of_block hg2
    have hN : NodesAt w g 0 ns := fun j hj => by
      subst hv
      obtain ⟨g0, g1, g2⟩ := flat3_get ns j hj
      rw [Nat.zero_add]
      exact ⟨(h.cellAt (j * 3) (by omega)).trans g0, (h.cellAt (j * 3 + 1) (by omega)).trans g1, (h.cellAt (j * 3 + 2) (by omega)).trans g2⟩
    exact ⟨⟨_, cap, hv, hg3, hg4, (fun h => by cases h), fun _ => ⟨g, 0, rfl, hlt, hN⟩⟩, fun _ => ⟨g, cap, hv, hlt, hN⟩⟩
theorem flat3_append : ∀ (a b : List Nd), flat3 (a ++ b) = flat3 a ++ flat3 b
  | [], b => rfl
  | n :: r, b => by simp [flat3, flat3_append r b]
theorem Tryd.info45 : (Tryd.prog.info? 45).map (fun i => (i.zero, i.size, i.bytes)) = some (some (.agg #[.string ⟨#[]⟩, .int .i64 0, .string ⟨#[]⟩]), 3, 40) := by kernel_rfl
theorem Tryd.info9 : (Tryd.prog.info? 9).map (fun i => (i.zero, i.size, i.bytes)) = some (some (.string ⟨#[]⟩), 1, 16) := by kernel_rfl
theorem own_form {w : World} {base size n : Nat} {e : TypeId} {v : Value} {xs : List Value} (h : w.ownsRow base e size v n xs) (hn : 0 < n) : ∃ g cap, v = .slice (some ⟨g, 0, none⟩) n cap ∧ n ≤ cap := by
  rcases h.2 with ⟨_, h0⟩ | ⟨g, cap, _, hv, _, _, hn, _⟩
  · omega
  · exact ⟨g, cap, hv, hn⟩
theorem cell_three_at (w : World) (a b c : Value) (t : TypeId) (n : Nat) (h : n = w.heap.size) : ∀ j u, [a, b, c][j]? = some u → (w.alloc (.cells #[a, b, c] t)).cell? ((⟨n, 0, none⟩ : Addr).add j) = some u := by
  subst h
  intro j u hj
  match j, hj with
  | 0, hj => simp at hj; subst hj; simp [Addr.add]
  | 1, hj => simp at hj; subst hj; simp [Addr.add]
  | 2, hj => simp at hj; subst hj; simp [Addr.add]
  | j + 3, hj => simp at hj
theorem cell_one_at (w : World) (a : Value) (t : TypeId) (n : Nat) (h : n = w.heap.size) : ∀ j u, [a][j]? = some u → (w.alloc (.cells #[a] t)).cell? ((⟨n, 0, none⟩ : Addr).add j) = some u := by
  subst h
  intro j u hj
  match j, hj with
  | 0, hj => simp at hj; subst hj; simp [Addr.add]
  | j + 1, hj => simp at hj
theorem block_keep {w : World} {b : Nat} {o : Obj} (o' : Obj) (h : w.heap[b]? = some o) : (w.alloc o').heap[b]? = some o := by
  have hlt := lt_of_block h
  unfold World.alloc
  simp only
  rw [Array.getElem?_push_lt hlt, ← h, Array.getElem?_eq_getElem hlt]
end Go.Proofs.YticcbaapbnfmmaaDoor
