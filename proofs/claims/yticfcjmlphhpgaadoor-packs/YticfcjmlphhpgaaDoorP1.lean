/-
  THE ROW's ARGUMENT: a slice of nodes, opened.
-/
import Derived.Test.YticfcjmlphhpgaaDoorRows
import Derived.Test.YticfcjmlphhpgaaDoorM4
import Derived.WalkKit
import Derived.ProofKit
import Derived.OpenShut
import Derived.ShutString
import Derived.ChangeOld
import Derived.Below
import Derived.Deep.Slices
import Derived.Deep.Strs
import Derived.SizedLaws
namespace Go.Proofs.YticfcjmlphhpgaaDoor
open Go.ChangeShapes Go.WideShapes Go.ChangeAt Go.RowKit Go.Deep

theorem choose_list {Q : Nat → Nd → Prop} : ∀ n : Nat, (∀ i, i < n → ∃ y, Q i y) → ∃ ns : List Nd, ns.length = n ∧ ∀ i (h : i < ns.length), Q i ns[i]
  | 0, _ => ⟨[], rfl, fun i h => by simp at h⟩
  | n + 1, hq => by
    obtain ⟨ns, hl, ha⟩ := choose_list n (fun i hi => hq i (by omega))
    obtain ⟨y, hy⟩ := hq n (by omega)
    refine ⟨ns ++ [y], by simp [hl], fun i h => ?_⟩
    by_cases hi : i < ns.length
    · rw [List.getElem_append_left hi]; exact ha i hi
    · have : i = ns.length := by simp at h; omega
      subst this
      simp
      rw [hl]; exact hy
theorem Tryd.cells45 : Tryd.prog.cellsOf 45 = 3 := by kernel_rfl
theorem Tryd.cells9 : Tryd.prog.cellsOf 9 = 1 := by kernel_rfl
theorem Tryd.cells43 : Tryd.prog.cellsOf 43 = 1 := by kernel_rfl
theorem Tryd.bytes45 : Tryd.prog.bytesOf 45 = 40 := by kernel_rfl

/-- One node, read. -/
theorem open_node {H : Type} {enc : TypeId × Value → H} {W : World} {base : Nat} {spare : Nat → Bool} {held : Bool} {n : Nat} {cs : List Value} {x : DataW H × List MemPlace} (h : DataW.trod enc Tryd.prog W base spare held n 45 cs = some x) :
    ∃ y : Nd, cs = [.string y.path, .int .i64 y.kind, .string y.data] ∧ x.1 = .agg [.lit (.string y.path.data.toList), .lit (.int .i64 y.kind), .lit (.string y.data.data.toList)] := by
  obtain ⟨y0, y1, y2, m, rfl, hl, h0, h1, h2⟩ := trod_struct3 Tryd.underlying45 h
  rw [Tryd.cells45] at hl
  simp only [Tryd.cells9, Tryd.cells43] at h0 h1 h2
  obtain ⟨s0, e0, rfl, _⟩ := DataW.trod_string Tryd.underlying9 h0
  obtain ⟨k1, e1, rfl, _⟩ := DataW.trod_int Tryd.underlying43 h1
  obtain ⟨s2, e2, rfl, _⟩ := DataW.trod_string Tryd.underlying9 h2
  match cs, hl with
  | [a, b, c], _ =>
    simp at e0 e1 e2
    exact ⟨⟨s0, k1, s2⟩, by rw [e0, e1, e2], rfl⟩
/-- The argument: nil, or nodes in memory. -/
theorem open_nodes {H : Type} {enc : TypeId × Value → H} {W : World} {fuel : Nat} {v : Value} {x : DataW H × List MemPlace} (h : DataW.trod enc Tryd.prog W 0 (fun _ => true) true fuel 22 v.cells.toList = some x) (hv : ∃ a len cap, v = .slice a len cap) :
    (v = .slice none 0 0) ∨ ∃ (a : Addr) (cap : Nat) (ns : List Nd) (elems spare : List (DataW H)), v = .slice (some a) ns.length cap ∧ ns.length ≤ cap ∧ cap ≤ maxLen ∧ x.1 = .slice elems spare ∧
      (∀ y ∈ ns, DataW.agg [.lit (.string y.path.data.toList), .lit (.int .i64 y.kind), .lit (.string y.data.data.toList)] ∈ elems) ∧ elems.length = ns.length ∧
      (0 < ns.length → ∃ b off, a = ⟨b, off, none⟩ ∧ b < W.heap.size ∧ NodesAt W b off ns) := by
  obtain ⟨a0, len0, cap0, rfl⟩ := hv
  rcases open_slice Tryd.underlying22 h with ⟨hcs, _⟩ | ⟨a, len, cap, m, n, D, Pl, hcs, _, hl, hm, hmm, rfl, hall⟩
  · simp [Value.cells] at hcs
    obtain ⟨rfl, rfl, rfl⟩ := hcs
    exact .inl rfl
  · simp [Value.cells] at hcs
    obtain ⟨rfl, rfl, rfl⟩ := hcs
    right
    have hmm' : len0 ≤ m := by rw [hmm]; simp; omega
    obtain ⟨ns, hnl, hns⟩ := choose_list (Q := fun i y => W.cells? 0 (a.add (i * 3)) 3 = some [.string y.path, .int .i64 y.kind, .string y.data] ∧ D i = .agg [.lit (.string y.path.data.toList), .lit (.int .i64 y.kind), .lit (.string y.data.data.toList)]) len0 (fun i hi => by
      obtain ⟨cs', hc, ht⟩ := hall i (by omega)
      rw [Tryd.cells45] at hc
      obtain ⟨y, e1, e2⟩ := open_node ht
      exact ⟨y, by rw [hc, e1], e2⟩)
    refine ⟨a, cap0, ns, _, _, by rw [hnl], by omega, hm, rfl, fun y hy => ?_, by simp [hnl], fun hpos => ?_⟩
    · obtain ⟨i, hi, rfl⟩ := List.getElem_of_mem hy
      rw [← (hns i hi).2]
      exact List.mem_map.2 ⟨i, by simp; omega, rfl⟩
    · have hcell : ∀ i (hi : i < ns.length), W.cell? ((a.add (i * 3)).add 0) = some (.string ns[i].path) ∧ W.cell? ((a.add (i * 3)).add 1) = some (.int .i64 ns[i].kind) ∧ W.cell? ((a.add (i * 3)).add 2) = some (.string ns[i].data) := fun i hi => by
        have h1 := (World.cells?_some (hns i hi).1).2.2
        exact ⟨h1 0 (by omega), h1 1 (by omega), h1 2 (by omega)⟩
      obtain ⟨b, off, spot⟩ := a
      have h0 := (hcell 0 hpos).1
      have hsp : spot = none := by simpa [Addr.add] using World.cell?_spot h0
      subst hsp
      have hadd : ∀ i j, ((⟨b, off, none⟩ : Addr).add i).add j = ⟨b, off + i + j, none⟩ := fun i j => by
        have one : ∀ o k, (⟨b, o, none⟩ : Addr).add k = ⟨b, o + k, none⟩ := fun o k => by unfold Addr.add; split <;> simp_all
        rw [one, one]
      refine ⟨b, off, rfl, ?_, fun i hi => ?_⟩
      · rw [hadd] at h0
        exact World.block_lt_of_cell? W _ h0
      · have := hcell i hi
        simp only [hadd, Nat.add_zero] at this
        exact this
end Go.Proofs.YticfcjmlphhpgaaDoor
