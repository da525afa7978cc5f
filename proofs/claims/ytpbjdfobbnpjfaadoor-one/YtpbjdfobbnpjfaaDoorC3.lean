/-
  WALKS of the reader, 3: slices.Backward over items.
-/
import Derived.RangeFuncNested
import Derived.RangeFuncBound
import Derived.RangeFuncCalls
import Derived.RangeFuncLeaves
import Derived.Shelf.Abstract
import Derived.WalkKit
import Derived.OwnWalkIn
import Derived.TacticsInMore
import Derived.LoopNIn
import Derived.LoopIn
import Derived.Laws.EntriesVeiled
import Derived.Test.YtpbjdfobbnpjfaaDoorC2
namespace Go.Proofs.YtpbjdfobbnpjfaaDoor
open Go.RowKit Go.Shelf

attribute [local go_sem] Oper.semAt_some

/-- An item in memory. -/
structure IV where
  m : Int
  fn : Fn
  first : Array Value
  cap : Array Value
def IV.val (x : IV) : Value := .agg #[.int .i64 x.m, .func x.fn x.first x.cap]
def flatI : List IV → List Value
  | [] => []
  | x :: r => .int .i64 x.m :: .func x.fn x.first x.cap :: flatI r
theorem flatI_length : ∀ l, (flatI l).length = l.length * 2
  | [] => rfl
  | x :: r => by simp only [flatI, List.length_cons, flatI_length r]; omega
theorem flatI_append : ∀ a b, flatI (a ++ b) = flatI a ++ flatI b
  | [], b => rfl
  | x :: r, b => by simp [flatI, flatI_append r b]
theorem flatI_get : ∀ (l : List IV) (j : Nat) (x : IV), l[j]? = some x → (flatI l)[j * 2]? = some (.int .i64 x.m) ∧ (flatI l)[j * 2 + 1]? = some (.func x.fn x.first x.cap)
  | [], j, x, h => by simp at h
  | y :: r, 0, x, h => by simp at h; subst h; exact ⟨rfl, rfl⟩
  | y :: r, j + 1, x, h => by
    have := flatI_get r j x (by simpa using h)
    rw [show (j + 1) * 2 = j * 2 + 1 + 1 by omega]
    simpa [flatI] using this
theorem flatI_take : ∀ (l : List IV) (k : Nat), (flatI l).take (k * 2) = flatI (l.take k)
  | [], k => by simp [flatI]
  | x :: r, 0 => by simp [flatI]
  | x :: r, k + 1 => by
    rw [show (k + 1) * 2 = k * 2 + 1 + 1 by omega]
    simp [flatI, flatI_take r k]

/-- What has come when q are left. -/
def bk (its : List IV) : Nat → Nat → List (Nat × IV)
  | _, 0 => []
  | q, k + 1 => bk its (q + 1) k ++ (match its[q]? with | some x => [(q, x)] | none => [])
theorem bk_items (its : List IV) : ∀ (k q : Nat), q + k = its.length → (bk its q k).map (·.2) = (its.drop q).reverse
  | 0, q, h => by rw [List.drop_eq_nil_of_le (by omega)]; rfl
  | k + 1, q, h => by
    have hq : q < its.length := by omega
    rw [bk, List.map_append, bk_items its k (q + 1) (by omega), List.getElem?_eq_getElem hq, List.drop_eq_getElem_cons hq, List.reverse_cons]
    rfl
theorem bk_length (its : List IV) : ∀ (k q : Nat), q + k = its.length → (bk its q k).length = k
  | 0, q, h => rfl
  | k + 1, q, h => by
    have hq : q < its.length := by omega
    rw [bk, List.length_append, bk_length its k (q + 1) (by omega), List.getElem?_eq_getElem hq]; rfl

/-- The two blocks that the iterator reads lie on. -/
def KB (b Bs : Nat) (W W' : World) : Prop := W'.heap[b]? = W.heap[b]? ∧ W'.heap[Bs]? = W.heap[Bs]?
theorem KB.trans {b Bs : Nat} {A B C : World} (h : KB b Bs A B) (k : KB b Bs B C) : KB b Bs A C := ⟨k.1.trans h.1, k.2.trans h.2⟩

theorem Backward_in (F : Fence) (n : Nat) (h5 : F.fn 44) (hro : F.round = none) (a : Option Addr) (len cap : Nat) (w : World) :
    CallsIn F n Tryd.prog 44 #[.slice a len cap] w fun e w' => e = .returned (.func (.func 52) #[] #[.pointer (some ⟨w.heap.size, 0, none⟩)]) ∧ w' = w.alloc (.cells #[.slice a len cap] 54) := by
  have hmf : ∀ (fn : Fn) (first cap : Array Value) (w : World), (Instr.makeFunc fn first cap).run Tryd.prog w = .ok (.func fn first cap) w := fun _ _ _ _ => rfl
  refine callsIn_of_wp Tryd.func44 rfl h5 ?_ hro
  simp only [Tryd.ntmps44, List.size_toArray, List.length_cons, List.length_nil, Nat.reduceAdd, Nat.reduceSub, Array.replicate_succ, Array.replicate_zero, List.push_toArray, List.append_toArray, List.nil_append, List.cons_append]
  gi_wp2
  go_ret
  exact ⟨rfl, rfl⟩

set_option maxRecDepth 100000 in
set_option maxHeartbeats 2000000 in
theorem back1_in (F : Fence) (n : Nat) (h8 : F.fn 52) (hro : F.round = none) (hn : 1 ≤ n) (l Bs b : Nat) (its : List IV) (hlen : its.length ≤ 1000) (J Jx : List (Nat × IV) → World → Prop)
    (hY : ∀ pre x W, J pre W → pre.length < its.length → YieldAt F (n - 1) Tryd.prog l #[.int .i64 (x.1 : Int), x.2.val] W fun e W' =>
      (e = .returned (.bool true) ∧ J (pre ++ [x]) W' ∧ KB b Bs W W') ∨ (e = .returned (.bool false) ∧ Jx (pre ++ [x]) W'))
    (W : World) (hBs : W.heap[Bs]? = some (.cells #[.slice (some ⟨b, 0, none⟩) its.length its.length] 54 (0, 0))) (hb : W.heap[b]? = some (.cells (flatI its).toArray 75 (0, 0))) (h0 : J [] W) :
    CallsIn F n Tryd.prog 52 #[.func (.yield l) #[] #[], .pointer (some ⟨Bs, 0, none⟩)] W fun e W' => (∃ v, e = .returned v) ∧
      ((∃ ys, ys = bk its 0 its.length ∧ J ys W') ∨ (∃ pre, True ∧ Jx pre W')) := by
  refine callsIn_of_wp Tryd.func52 rfl h8 ?_ hro
  simp only [Tryd.ntmps52, List.size_toArray, List.length_cons, List.length_nil, Nat.reduceAdd, Nat.reduceSub, Array.replicate_succ, Array.replicate_zero, List.push_toArray, List.append_toArray, List.nil_append, List.cons_append]
  have cB : W.cell? ⟨Bs, 0, none⟩ = some (.slice (some ⟨b, 0, none⟩) its.length its.length) := by simp [World.cell?, hBs]
  gi_wp2
  gi_loopw [3] (fun i wr => ∃ q k : Nat, q + k = its.length ∧ i = .int .i64 ((q : Int) - 1) ∧ J (bk its q k) wr ∧ KB b Bs W wr)
    (fun i _ => (intOf i + 1).toNat)
  case atStart => exact ⟨its.length, 0, by omega, rfl, h0, rfl, rfl⟩
  case round =>
    obtain ⟨q, k, hqk, rfl, hJs, hK⟩ := hrel
    have hBs' := hK.2.trans hBs
    have hb' := hK.1.trans hb
    have cB' : wr.cell? ⟨Bs, 0, none⟩ = some (.slice (some ⟨b, 0, none⟩) its.length its.length) := by simp [World.cell?, hBs']
    cases q with
    | zero =>
      obtain rfl : k = its.length := by omega
      gi_wp2
      go_end0
      exact ⟨⟨_, rfl⟩, .inl ⟨_, rfl, hJs⟩⟩
    | succ p =>
      rw [show ((p + 1 : Nat) : Int) - 1 = (p : Int) by omega]
      have hp : p < its.length := by omega
      obtain ⟨x, hx⟩ : ∃ x, its[p]? = some x := ⟨its[p], List.getElem?_eq_getElem hp⟩
      obtain ⟨e0, e1⟩ := flatI_get its p x hx
      have c0 : wr.cell? ⟨b, p * 2, none⟩ = some (.int .i64 x.m) := by simp [World.cell?, hb', e0]
      have c1 : wr.cell? ⟨b, p * 2 + 1, none⟩ = some (.func x.fn x.first x.cap) := by simp [World.cell?, hb', e1]
      obtain ⟨fn, tmps, assign, body, hy, hR⟩ := hY _ (p, x) wr hJs (by rw [bk_length its k (p + 1) hqk]; omega)
      dsimp only [IV.val] at hy
      have hsnoc : bk its p (k + 1) = bk its (p + 1) k ++ [(p, x)] := by rw [bk, hx]
      gi_wp2
      refine hR.mono ?_
      rintro e W3 (⟨rfl, hJ3, hk3⟩ | ⟨rfl, hJx3⟩)
      · gi_wp2
        go_roundw
        case rel => exact ⟨p, k + 1, by omega, by simp, by rw [hsnoc]; exact hJ3, hK.trans hk3⟩
        case measure => simp [intOf]
      · gi_wp2
        refine bodyPost_ret (results_none rfl _ _ _) rfl ?_
        exact ⟨⟨_, rfl⟩, .inr ⟨_, trivial, hJx3⟩⟩
theorem back_stops (F : Fence) (n : Nat) (h8 : F.fn 52) (hro : F.round = none) (hn : 1 ≤ n) (Bs b : Nat) (its : List IV) (hlen : its.length ≤ 1000) (w : World) (hBs : w.heap[Bs]? = some (.cells #[.slice (some ⟨b, 0, none⟩) its.length its.length] 54 (0, 0))) (hb : w.heap[b]? = some (.cells (flatI its).toArray 75 (0, 0))) :
    SeqStopsK F n Tryd.prog 52 #[.pointer (some ⟨Bs, 0, none⟩)] (fun x : Nat × IV => #[Value.int .i64 (x.1 : Int), x.2.val]) (KB b Bs) (fun ys => ys = bk its 0 its.length) (fun _ => True) its.length w := fun l J Jx W hW _ _ hY h0 =>
  back1_in F n h8 hro hn l Bs b its hlen J Jx hY W ((hW.block _ (lt_of_block hBs)).trans hBs) ((hW.block _ (lt_of_block hb)).trans hb) h0
end Go.Proofs.YtpbjdfobbnpjfaaDoor
