/-
  WALKS, 15: the law's own helpers.
-/
import Derived.Test.YticfcjmlphhpgaaDoorBS
import Derived.Test.YticfcjmlphhpgaaDoorW8
import Derived.Test.YticfcjmlphhpgaaDoorM4
import Derived.Laws.AppendOwnNone
namespace Go.Proofs.YticfcjmlphhpgaaDoor
open Go.RowKit

set_option maxRecDepth 20000 in
set_option maxHeartbeats 1000000 in
theorem weight_any (v : Value) (ns : List Nd) (w : World) (hv : SliceN w v ns) (hln : ns.length ≤ 140737488355328) (hsz : ∀ y ∈ ns, y.path.size ≤ 140737488355328 ∧ y.data.size ≤ 140737488355328) :
    Calls Tryd.prog 6 #[v] w fun e w' => ∃ n : Nat, e = .returned (.int .i64 (n : Int)) ∧ (n ≤ 262144 → ns.length ≤ 262144 ∧ ∀ y ∈ ns, y.path.size ≤ 262144 ∧ y.data.size ≤ 262144) ∧ Below w.heap.size w w' := by
  obtain ⟨a, cap, rfl, hcap, hmax, hnone, hcells⟩ := hv
  by_cases hn : ns.length = 0
  · have hns : ns = [] := List.eq_nil_of_length_eq_zero hn
    subst hns
    clear hcells
    go_enter Tryd.func6, Tryd.ntmps6
    go_wp2
    refine wp_loop_rounds 1 ?_
    rw [rounds_succ]
    go_wp2
    go_ret
    exact ⟨0, rfl, (fun _ => ⟨by simp, fun y hy => by cases hy⟩), Below.refl _ _⟩
  · obtain ⟨b, off, rfl, hbl, hN⟩ := hcells (by omega)
    have HN := hide hN
    have HS := hide hsz
    clear hN hsz hcells hnone
    go_enter Tryd.func6, Tryd.ntmps6
    go_wp2
    go_loopw [3, 5, 10] (fun n _ i w1 => ∃ j q : Nat, j ≤ ns.length ∧ i = .int .i64 j ∧ n = .int .i64 (q : Int) ∧ q ≤ 140737488355328 ∧ ns.length ≤ q ∧ (q ≤ 262144 ∨ j = 0) ∧ Hid (∀ k (hk : k < ns.length), k < j → ns[k].path.size ≤ q ∧ ns[k].data.size ≤ q) ∧ Below w.heap.size w w1) (fun _ _ i _ => ns.length - (intOf i).toNat)
    case atStart => exact ⟨0, ns.length, by omega, rfl, rfl, by omega, Nat.le_refl _, .inr rfl, (fun k _ h => by omega), Below.refl _ _⟩
    case round =>
      obtain ⟨j, q, hj, rfl, rfl, hq, hlq, hor, hall, hbel⟩ := hrel
      have hszr := hbel.size
      by_cases hlt : j < ns.length
      · obtain ⟨c0, c1, c2⟩ := (HN.out.below hbel hbl) j hlt
        have hs := HS.out _ (List.getElem_mem hlt)
        generalize hy : ns[j] = y at c0 c1 c2 hs
        obtain ⟨yp, yk, yd⟩ := y
        simp only at c0 c1 c2 hs
        have HY := hide hy
        clear hy
        by_cases hbig : (262144 : Int) < (q : Int) + ((yp.size : Int) + yd.size)
        · go_wp2
          go_ret
          exact ⟨q + (yp.size + yd.size), by go_num, fun h => by omega, hbel.alloc hszr _⟩
        · go_wp2
          go_roundw
          case rel =>
            refine ⟨j + 1, q + (yp.size + yd.size), by omega, by go_num, by go_num, by omega, by omega, .inl (by omega), ?_, hbel.alloc hszr _⟩
            intro k hk h
            by_cases e : k = j
            · subst e; rw [HY.out]; exact ⟨by simp only; omega, by simp only; omega⟩
            · have := hall.out k hk (by omega); omega
          case measure => simp [intOf]; omega
      · obtain rfl : j = ns.length := by omega
        go_wp2
        go_ret
        refine ⟨q, rfl, fun h => ⟨by omega, fun y hy => ?_⟩, hbel⟩
        obtain ⟨k, hk, rfl⟩ := List.getElem_of_mem hy
        have := hall.out k hk hk
        omega

theorem below_dN {B : Nat} {a w : World} (h : Below B a w) : ∀ q, Below B a (w.drewN q)
  | 0 => h
  | q + 1 => (below_dN h q).drew

set_option maxRecDepth 20000 in
set_option maxHeartbeats 1000000 in
theorem sameTree_any (b off cap b' off' cap' : Nat) (ns : List Nd) (w : World) (_hbl : b < w.heap.size) (_hbl' : b' < w.heap.size) (hN : NodesAt w b off ns) (hN' : NodesAt w b' off' ns) (hln : ns.length ≤ 1000000) (hpos : 0 < ns.length) :
    Calls Tryd.prog 8 #[.slice (some ⟨b, off, none⟩) ns.length cap, .slice (some ⟨b', off', none⟩) ns.length cap'] w fun e w' => e = .returned (.bool true) ∧ Below w.heap.size w w' := by
  have HN := hide hN
  have HN' := hide hN'
  clear hN hN'
  go_enter Tryd.func8, Tryd.ntmps8
  go_wp2
  go_loopw [5, 13] (fun _ i w1 => ∃ j n : Nat, j ≤ ns.length ∧ i = .int .i64 j ∧ Hid (w1 = w.drewN n)) (fun _ i _ => ns.length - (intOf i).toNat)
  case atStart => exact ⟨0, 0, by omega, rfl, rfl⟩
  case round =>
    obtain ⟨j, n, hj, rfl, HW⟩ := hrel
    have hcl : ∀ a, wr.cell? a = w.cell? a := fun a => by rw [HW.out]; simp
    by_cases hlt : j < ns.length
    · obtain ⟨c0, c1, c2⟩ := HN.out j hlt
      obtain ⟨d0, d1, d2⟩ := HN'.out j hlt
      rw [← hcl] at c0 c1 c2 d0 d1 d2
      generalize ns[j] = y at c0 c1 c2 d0 d1 d2
      obtain ⟨yp, yk, yd⟩ := y
      simp only at c0 c1 c2 d0 d1 d2
      have hltz : (j : Int) < ns.length := by omega
      clear hcl
      go_wp2
      go_quiet (fail)
      go_wp2
      go_roundw
      case rel => exact ⟨j + 1, n + nq, by omega, by go_num, by show _ = _; rw [HW.out, World.drewN_drewN]⟩
      case measure => simp [intOf]; omega
    · clear hcl
      go_wp2
      go_ret
      exact ⟨rfl, by rw [HW.out]; exact below_dN (Below.refl _ _) n⟩

set_option maxRecDepth 20000 in
set_option maxHeartbeats 400000 in
theorem sameTree_nil (a a' : Option Addr) (cap cap' : Nat) (w : World) : Calls Tryd.prog 8 #[.slice a 0 cap, .slice a' 0 cap'] w fun e w' => e = .returned (.bool true) ∧ Below w.heap.size w w' := by
  go_enter Tryd.func8, Tryd.ntmps8
  go_wp2
  refine wp_loop_rounds 1 ?_
  rw [rounds_succ]
  go_wp2
  go_ret
  exact ⟨rfl, Below.refl _ _⟩

end Go.Proofs.YticfcjmlphhpgaaDoor
