/-
  ROWS OF NODES; small facts on rows and blocks.
-/
import Derived.Test.YtpbjdfobbnpjfaaDoorW7
import Derived.Laws.AppendOwnNone
import Derived.Deep.CutRange
import Derived.Deep.DeepCutAuto
import Derived.Deep.CutBlock
namespace Go.Proofs.YtpbjdfobbnpjfaaDoor
open Go.RowKit

def flat3 : List Nd → List Value
  | [] => []
  | n :: r => .string n.path :: .int .i64 n.kind :: .string n.data :: flat3 r
theorem flat3_length : ∀ ns, (flat3 ns).length = ns.length * 3
  | [] => rfl
  | n :: r => by simp only [flat3, List.length_cons, flat3_length r]; omega
theorem flat3_get : ∀ (ns : List Nd) (j : Nat) (h : j < ns.length), (flat3 ns)[j * 3]? = some (.string ns[j].path) ∧ (flat3 ns)[j * 3 + 1]? = some (.int .i64 ns[j].kind) ∧ (flat3 ns)[j * 3 + 2]? = some (.string ns[j].data)
  | [], j, h => by simp at h
  | n :: r, 0, h => by simp [flat3]
  | n :: r, j + 1, h => by
    have := flat3_get r j (by simpa using h)
    rw [show (j + 1) * 3 = j * 3 + 1 + 1 + 1 by omega]
    simpa [flat3] using this
theorem flat3_one : ∀ (ns : List Nd), ∀ u ∈ flat3 ns, u.oneCell' = true
  | [], u, h => by cases h
  | n :: r, u, h => by
    simp only [flat3, List.mem_cons] at h
    rcases h with rfl | rfl | rfl | h
    · rfl
    · rfl
    · rfl
    · exact flat3_one r u h
theorem NodesAt.cells {w : World} {b off : Nat} : ∀ {ns : List Nd}, NodesAt w b off ns → ∀ j u, (flat3 ns)[j]? = some u → w.cell? ((⟨b, off, none⟩ : Addr).add j) = some u := by
  intro ns h j u hj
  have hl : j < ns.length * 3 := by rw [← flat3_length]; exact (List.getElem?_eq_some_iff.1 hj).1
  have hd : j / 3 < ns.length := by omega
  obtain ⟨g0, g1, g2⟩ := flat3_get ns (j / 3) hd
  obtain ⟨c0, c1, c2⟩ := h (j / 3) hd
  have ha : (⟨b, off, none⟩ : Addr).add j = ⟨b, off + j, none⟩ := by unfold Addr.add; split <;> simp_all
  rw [ha]
  rcases (show j = j / 3 * 3 ∨ j = j / 3 * 3 + 1 ∨ j = j / 3 * 3 + 2 by omega) with e | e | e
  · rw [e] at hj ⊢; rw [g0] at hj; rw [← hj]; exact c0
  · rw [e] at hj ⊢; rw [g1] at hj; rw [← hj, ← Nat.add_assoc]; exact c1
  · rw [e] at hj ⊢; rw [g2] at hj; rw [← hj, ← Nat.add_assoc]; exact c2
theorem own_nodes {w : World} {B : Nat} {v : Value} {ns : List Nd} (h : w.ownsRow B 37 3 v ns.length (flat3 ns)) : SliceN w v ns ∧ (0 < ns.length → ∃ g cap, v = .slice (some ⟨g, 0, none⟩) ns.length cap ∧ g < w.heap.size ∧ NodesAt w g 0 ns) := by
  rcases h.2 with ⟨hv, h0⟩ | ⟨g, cap, cur, hv, hg1, hg2, hg3, hg4, hg5, hg6⟩
  · have : ns = [] := List.eq_nil_of_length_eq_zero h0
    subst this
    refine ⟨⟨none, 0, hv, by simp, by simp [maxLen], fun _ => rfl, fun h => by simp at h⟩, fun h => by simp at h⟩
  · have hlt := lt_of_block hg2
    have hN : NodesAt w g 0 ns := fun j hj => by
      subst hv
      obtain ⟨g0, g1, g2⟩ := flat3_get ns j hj
      rw [Nat.zero_add]
      exact ⟨(h.cellAt (j * 3) (by omega)).trans g0, (h.cellAt (j * 3 + 1) (by omega)).trans g1, (h.cellAt (j * 3 + 2) (by omega)).trans g2⟩
    exact ⟨⟨_, cap, hv, hg3, hg4, (fun h => by cases h), fun _ => ⟨g, 0, rfl, hlt, hN⟩⟩, fun _ => ⟨g, cap, hv, hlt, hN⟩⟩
theorem flat3_append : ∀ (a b : List Nd), flat3 (a ++ b) = flat3 a ++ flat3 b
  | [], b => rfl
  | n :: r, b => by simp [flat3, flat3_append r b]
theorem flat3_set : ∀ (ns : List Nd) (k : Nat) (x : Nd), k < ns.length → flat3 (ns.set k x) = (((flat3 ns).set (k * 3) (.string x.path)).set (k * 3 + 1) (.int .i64 x.kind)).set (k * 3 + 2) (.string x.data)
  | [], k, x, h => by simp at h
  | n :: r, 0, x, _ => by simp [flat3]
  | n :: r, k + 1, x, h => by
    have := flat3_set r k x (by simpa using h)
    rw [show (k + 1) * 3 = k * 3 + 1 + 1 + 1 by omega]
    simp [flat3, this]
theorem Tryd.info37 : (Tryd.prog.info? 37).map (fun i => (i.zero, i.size, i.bytes)) = some (some (.agg #[.string ⟨#[]⟩, .int .i64 0, .string ⟨#[]⟩]), 3, 40) := by kernel_rfl
theorem Tryd.info9 : (Tryd.prog.info? 9).map (fun i => (i.zero, i.size, i.bytes)) = some (some (.string ⟨#[]⟩), 1, 16) := by kernel_rfl
theorem own_form {w : World} {base size n : Nat} {e : TypeId} {v : Value} {xs : List Value} (h : w.ownsRow base e size v n xs) (hn : 0 < n) : ∃ g cap, v = .slice (some ⟨g, 0, none⟩) n cap ∧ n ≤ cap := by
  rcases h.2 with ⟨_, h0⟩ | ⟨g, cap, _, hv, _, _, hn, _⟩
  · omega
  · exact ⟨g, cap, hv, hn⟩
theorem cell_three_at (w : World) (a b c : Value) (t : TypeId) (n : Nat) (h : n = w.heap.size) : ∀ j u, [a, b, c][j]? = some u → (w.alloc (.cells #[a, b, c] t)).cell? ((⟨n, 0, none⟩ : Addr).add j) = some u := by
  subst h
  intro j u hj
  match j, hj with
  | 0, hj => simp at hj; subst hj; simp [Addr.add]
  | 1, hj => simp at hj; subst hj; simp [Addr.add]
  | 2, hj => simp at hj; subst hj; simp [Addr.add]
  | j + 3, hj => simp at hj
theorem cell_one_at (w : World) (a : Value) (t : TypeId) (n : Nat) (h : n = w.heap.size) : ∀ j u, [a][j]? = some u → (w.alloc (.cells #[a] t)).cell? ((⟨n, 0, none⟩ : Addr).add j) = some u := by
  subst h
  intro j u hj
  match j, hj with
  | 0, hj => simp at hj; subst hj; simp [Addr.add]
  | j + 1, hj => simp at hj
theorem block_keep {w : World} {b : Nat} {o : Obj} (o' : Obj) (h : w.heap[b]? = some o) : (w.alloc o').heap[b]? = some o := by
  have hlt := lt_of_block h
  unfold World.alloc
  simp only
  rw [Array.getElem?_push_lt hlt, ← h, Array.getElem?_eq_getElem hlt]
end Go.Proofs.YtpbjdfobbnpjfaaDoor
