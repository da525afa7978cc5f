/-
  WALKS, 6: a tree's bytes.
-/
import Derived.Test.YtpbjdfobbnpjfaaDoorW5
import Derived.Test.YtpbjdfobbnpjfaaDoorM5
import Derived.BigRegion
namespace Go.Proofs.YtpbjdfobbnpjfaaDoor
open Go.RowKit

/-- Each node is of one of the four kinds. -/
def Kinds (l : List Nd) : Prop := ∀ n ∈ l, n.kind = 1 ∨ n.kind = 2 ∨ n.kind = 3 ∨ n.kind = 4
/-- What a call of appendEntries does, at lists of at most f nodes. -/
def PEnts (f : Nat) : Prop := ∀ (base : Nat) (o : Value) (k : Nat) (xs : List Value) (v : Value) (l : List Nd) (dir : ByteArray) (w : World),
  w.ownsRow base 5 1 o k xs → base ≤ w.heap.size → SliceB base w v l → Small l → Kinds l → l.length ≤ f → k + bulk l ≤ 1000000000000 →
  Calls Tryd.prog 26 #[o, v, .string dir] w fun e w' => ∃ o' v', e = .returned (.tuple #[o', v']) ∧
    w'.ownsRow base 5 1 o' (k + (entsF f l dir).1.length) (xs ++ cellsOf (entsF f l dir).1) ∧ SliceB base w' v' (entsF f l dir).2 ∧ K5 base w w'
/-- What a call of appendNode does, at a node with at most f behind it. -/
def PNode (f : Nat) : Prop := ∀ (base : Nat) (o : Value) (k : Nat) (xs : List Value) (v : Value) (n : Nd) (r : List Nd) (w : World),
  w.ownsRow base 5 1 o k xs → base ≤ w.heap.size → SliceB base w v (n :: r) → Small (n :: r) → Kinds (n :: r) → r.length ≤ f → k + bulk (n :: r) ≤ 1000000000000 + 200 + n.path.size →
  Calls Tryd.prog 18 #[o, v] w fun e w' => ∃ o' v', e = .returned (.tuple #[o', v']) ∧
    w'.ownsRow base 5 1 o' (k + (nodeF (entsF f) n r).1.length) (xs ++ cellsOf (nodeF (entsF f) n r).1) ∧ SliceB base w' v' (nodeF (entsF f) n r).2 ∧ K5 base w w'

/-- wire.Append at strings that were just laid in a new block. -/
theorem Append_new (base : Nat) (v : Value) (n : Nat) (xs : List Value) (ss : List ByteArray) (W : World) (hown : W.ownsRow base 5 1 v n xs) (hbase : base ≤ W.heap.size)
    (hn : n + (bytesOf ss).length ≤ 1000000000000) (hss : ss.length ≤ 1000) (cs : Array Value) (hcs : cs = (ss.map Value.string).toArray) (m : Nat) (hm : m = ss.length) :
    Calls Tryd.prog 19 #[v, .slice (some ⟨W.heap.size, 0, none⟩) m m] (W.alloc (.cells cs 9)) fun e w' => ∃ v', e = .returned v' ∧
      w'.ownsRow base 5 1 v' (n + (bytesOf ss).length) (xs ++ cellsOf (bytesOf ss)) ∧ K5 base W w' := by
  subst hcs hm
  refine (Append_any base v n xs W.heap.size ss _ (hown.alloc _) (by simp; omega) (block_new W _) hn hss).mono ?_
  rintro e w' ⟨v', rfl, h1, h2⟩
  exact ⟨v', rfl, h1, ((K5.refl base W).alloc hbase _).trans h2⟩
theorem bytesOf_nonneg (ss : List ByteArray) : 0 ≤ (bytesOf ss).length := Nat.zero_le _

set_option maxRecDepth 20000 in
set_option maxHeartbeats 1000000 in
theorem node_file (f : Nat) (base : Nat) (o : Value) (k : Nat) (xs : List Value) (v : Value) (path : ByteArray) (data : ByteArray) (r : List Nd) (w : World)
    (hown : w.ownsRow base 5 1 o k xs) (hbase : base ≤ w.heap.size) (hv : SliceB base w v (⟨path, 1, data⟩ :: r)) (hsm : Small (⟨path, 1, data⟩ :: r)) (hbk : k + bulk (⟨path, 1, data⟩ :: r) ≤ 1000000000000 + 200 + path.size) :
    Calls Tryd.prog 18 #[o, v] w fun e w' => ∃ o' v', e = .returned (.tuple #[o', v']) ∧
      w'.ownsRow base 5 1 o' (k + (nodeF (entsF f) ⟨path, 1, data⟩ r).1.length) (xs ++ cellsOf (nodeF (entsF f) ⟨path, 1, data⟩ r).1) ∧ SliceB base w' v' (nodeF (entsF f) ⟨path, 1, data⟩ r).2 ∧ K5 base w w' := by
  have hbb := nodeF_bulk (entsF f) (entsF_bulk f) ⟨path, 1, data⟩ r
  obtain ⟨X, hX⟩ : ∃ X, nodeF (entsF f) ⟨path, 1, data⟩ r = X := ⟨_, rfl⟩
  rw [hX] at hbb ⊢
  simp only at hbb
  have HX1 : Hid (X.1 = bytesOf [wOpen, wType, wordOf 1] ++ (bytesOf [wData, data]) ++ bytesOf [wClose]) := by show _ = _; rw [← hX]; simp [nodeF, bodyF]
  have HX2 : Hid (X.2 = r) := by show _ = _; rw [← hX]; simp [nodeF, bodyF]
  clear hX
  have hhd := head_le 1
  have hcl := close_le
  have hdl := data_le data
  have htl := to_le data
  have hxl := exec_le
  have hbk' : k + (1000 + path.size + data.size + bulk r) ≤ 1000000000000 + 200 + path.size := hbk
  obtain ⟨a, cap, rfl, hcap, hmax, hcells⟩ := hv
  obtain ⟨b, off, rfl, hbB, hN⟩ := hcells (by simp)
  obtain ⟨c0, c1, c2⟩ := hN 0 (by simp)
  simp only [Nat.zero_mul, Nat.add_zero, List.getElem_cons_zero] at c0 c1 c2
  rw [List.length_cons] at hcap ⊢
  have hl := hsm.1
  rw [List.length_cons] at hl
  have hsp := hsm.2 _ (List.mem_cons_self)
  simp only at hsp
  have hrA : Hid (cap = 1 → SliceB base w (.slice (some ⟨b, off, none⟩) r.length 0) r) := fun h => ⟨_, _, rfl, by omega, by omega, fun h2 => by omega⟩
  have hrB : Hid (SliceB base w (.slice (some ⟨b, off + 3, none⟩) r.length (cap - 1)) r) := ⟨_, _, rfl, by omega, by omega, fun _ => ⟨b, off + 3, rfl, hbB, hN.tail⟩⟩
  have hsr := hide hsm.tail
  unfold maxLen at hmax
  have h1z : (1 : Int) ≤ (r.length : Int) + 1 := by omega
  have hbl : b < w.heap.size := by omega
  have d0 : ∀ ob, (w.alloc ob).cell? ⟨b, off, none⟩ = some (.string path) := fun ob => by rw [World.cell?_alloc_past _ _ _ hbl]; exact c0
  have d1 : ∀ ob, (w.alloc ob).cell? ⟨b, off + 1, none⟩ = some (.int .i64 1) := fun ob => by rw [World.cell?_alloc_past _ _ _ hbl]; exact c1
  have d2 : ∀ ob, (w.alloc ob).cell? ⟨b, off + 2, none⟩ = some (.string data) := fun ob => by rw [World.cell?_alloc_past _ _ _ hbl]; exact c2
  have hk1 : K5 base w (w.alloc (.cells #[.string path, .int .i64 1, .string data] 37)).drew := ((K5.refl base w).alloc hbase _).drew
  have hown1 : (w.alloc (.cells #[.string path, .int .i64 1, .string data] 37)).drew.ownsRow base 5 1 o k xs := (hown.alloc _).drew
  have hbx1 : (w.alloc (.cells #[.string path, .int .i64 1, .string data] 37)).drew.heap[w.heap.size]? = some (.cells #[.string path, .int .i64 1, .string data] 37) := block_new w _
  have hW : ∃ W1, W1 = (w.alloc (.cells #[.string path, .int .i64 1, .string data] 37)).drew := ⟨_, rfl⟩
  clear hsm hcells hN hbk
  by_cases hc1 : cap = 1
  all_goals
    go_enter Tryd.func18, Tryd.ntmps18
    go_wp2
    go_region
    clear c0 c1 c2 d0 d1 d2
    go_wp2_with fail
    obtain ⟨W1, hW1⟩ := hW
    rw [← hW1] at hk1 hown1 hbx1 ⊢
    clear hW1
    refine (kindWord_any 1 W1).mono ?_
    rintro e w2 ⟨rfl, rfl⟩
    have hsz1 := hk1.size
    go_wp2_with fail
    refine (Append_new base _ _ _ [wOpen, wType, wordOf 1] w2 hown1 (by omega) (by omega) (by simp) _ rfl _ rfl).mono ?_
    rintro e W2 ⟨o2, rfl, hown2, hk2⟩
    have hbx2 := hk2.block (by decide) hbx1
    obtain ⟨x0, x1, x2⟩ := box_cells hbx2
    have hK2 := hk1.trans hk2
    have hsz2 := hK2.size
    clear hbx1 hown1 hk1 hk2
    go_wp2_with fail
    refine (Append_new base _ _ _ [wData, data] W2 hown2 (by omega) (by omega) (by simp) _ rfl _ rfl).mono ?_
    rintro e W3 ⟨o3, rfl, hown3, hk3⟩
    have hbx3 := hk3.block (by decide) hbx2
    have hb3 := box_cells hbx3
    have hK3 := hK2.trans hk3
    have hsz3 := hK3.size
    clear hbx2 hown2 hk3 x0 x1 x2
    obtain ⟨x0, x1, x2⟩ := hb3
    go_wp2_with fail
    refine (Append_new base _ _ _ [wClose] W3 hown3 (by omega) (by omega) (by simp) _ rfl _ rfl).mono ?_
    rintro e W4 ⟨o4, rfl, hown4, hk4⟩
    have hbx4 := hk4.block (by decide) hbx3
    have hb4 := box_cells hbx4
    have hK4 := hK3.trans hk4
    have hsz4 := hK4.size
    clear hbx3 hown3 hk4 x0 x1 x2
    obtain ⟨x0, x1, x2⟩ := hb4
    go_wp2
    go_ret2
    refine ⟨_, _, rfl, ?_, (by rw [HX2.out]; first | exact (hrA.out (by assumption)).below hK4.bel | exact hrB.out.below hK4.bel), hK4⟩
    rw [HX1.out]
    simpa [cellsOf_append, List.append_assoc, List.length_append, Nat.add_assoc] using hown4

set_option maxRecDepth 20000 in
set_option maxHeartbeats 1000000 in
theorem node_exec (f : Nat) (base : Nat) (o : Value) (k : Nat) (xs : List Value) (v : Value) (path : ByteArray) (data : ByteArray) (r : List Nd) (w : World)
    (hown : w.ownsRow base 5 1 o k xs) (hbase : base ≤ w.heap.size) (hv : SliceB base w v (⟨path, 2, data⟩ :: r)) (hsm : Small (⟨path, 2, data⟩ :: r)) (hbk : k + bulk (⟨path, 2, data⟩ :: r) ≤ 1000000000000 + 200 + path.size) :
    Calls Tryd.prog 18 #[o, v] w fun e w' => ∃ o' v', e = .returned (.tuple #[o', v']) ∧
      w'.ownsRow base 5 1 o' (k + (nodeF (entsF f) ⟨path, 2, data⟩ r).1.length) (xs ++ cellsOf (nodeF (entsF f) ⟨path, 2, data⟩ r).1) ∧ SliceB base w' v' (nodeF (entsF f) ⟨path, 2, data⟩ r).2 ∧ K5 base w w' := by
  have hbb := nodeF_bulk (entsF f) (entsF_bulk f) ⟨path, 2, data⟩ r
  obtain ⟨X, hX⟩ : ∃ X, nodeF (entsF f) ⟨path, 2, data⟩ r = X := ⟨_, rfl⟩
  rw [hX] at hbb ⊢
  simp only at hbb
  have HX1 : Hid (X.1 = bytesOf [wOpen, wType, wordOf 2] ++ (bytesOf [wExec, wNone] ++ bytesOf [wData, data]) ++ bytesOf [wClose]) := by show _ = _; rw [← hX]; simp [nodeF, bodyF]
  have HX2 : Hid (X.2 = r) := by show _ = _; rw [← hX]; simp [nodeF, bodyF]
  clear hX
  have hhd := head_le 2
  have hcl := close_le
  have hdl := data_le data
  have htl := to_le data
  have hxl := exec_le
  have hbk' : k + (1000 + path.size + data.size + bulk r) ≤ 1000000000000 + 200 + path.size := hbk
  obtain ⟨a, cap, rfl, hcap, hmax, hcells⟩ := hv
  obtain ⟨b, off, rfl, hbB, hN⟩ := hcells (by simp)
  obtain ⟨c0, c1, c2⟩ := hN 0 (by simp)
  simp only [Nat.zero_mul, Nat.add_zero, List.getElem_cons_zero] at c0 c1 c2
  rw [List.length_cons] at hcap ⊢
  have hl := hsm.1
  rw [List.length_cons] at hl
  have hsp := hsm.2 _ (List.mem_cons_self)
  simp only at hsp
  have hrA : Hid (cap = 1 → SliceB base w (.slice (some ⟨b, off, none⟩) r.length 0) r) := fun h => ⟨_, _, rfl, by omega, by omega, fun h2 => by omega⟩
  have hrB : Hid (SliceB base w (.slice (some ⟨b, off + 3, none⟩) r.length (cap - 1)) r) := ⟨_, _, rfl, by omega, by omega, fun _ => ⟨b, off + 3, rfl, hbB, hN.tail⟩⟩
  have hsr := hide hsm.tail
  unfold maxLen at hmax
  have h1z : (1 : Int) ≤ (r.length : Int) + 1 := by omega
  have hbl : b < w.heap.size := by omega
  have d0 : ∀ ob, (w.alloc ob).cell? ⟨b, off, none⟩ = some (.string path) := fun ob => by rw [World.cell?_alloc_past _ _ _ hbl]; exact c0
  have d1 : ∀ ob, (w.alloc ob).cell? ⟨b, off + 1, none⟩ = some (.int .i64 2) := fun ob => by rw [World.cell?_alloc_past _ _ _ hbl]; exact c1
  have d2 : ∀ ob, (w.alloc ob).cell? ⟨b, off + 2, none⟩ = some (.string data) := fun ob => by rw [World.cell?_alloc_past _ _ _ hbl]; exact c2
  have hk1 : K5 base w (w.alloc (.cells #[.string path, .int .i64 2, .string data] 37)).drew := ((K5.refl base w).alloc hbase _).drew
  have hown1 : (w.alloc (.cells #[.string path, .int .i64 2, .string data] 37)).drew.ownsRow base 5 1 o k xs := (hown.alloc _).drew
  have hbx1 : (w.alloc (.cells #[.string path, .int .i64 2, .string data] 37)).drew.heap[w.heap.size]? = some (.cells #[.string path, .int .i64 2, .string data] 37) := block_new w _
  have hW : ∃ W1, W1 = (w.alloc (.cells #[.string path, .int .i64 2, .string data] 37)).drew := ⟨_, rfl⟩
  clear hsm hcells hN hbk
  by_cases hc1 : cap = 1
  all_goals
    go_enter Tryd.func18, Tryd.ntmps18
    go_wp2
    go_region
    clear c0 c1 c2 d0 d1 d2
    go_wp2_with fail
    obtain ⟨W1, hW1⟩ := hW
    rw [← hW1] at hk1 hown1 hbx1 ⊢
    clear hW1
    refine (kindWord_any 2 W1).mono ?_
    rintro e w2 ⟨rfl, rfl⟩
    have hsz1 := hk1.size
    go_wp2_with fail
    refine (Append_new base _ _ _ [wOpen, wType, wordOf 2] w2 hown1 (by omega) (by omega) (by simp) _ rfl _ rfl).mono ?_
    rintro e W2 ⟨o2, rfl, hown2, hk2⟩
    have hbx2 := hk2.block (by decide) hbx1
    obtain ⟨x0, x1, x2⟩ := box_cells hbx2
    have hK2 := hk1.trans hk2
    have hsz2 := hK2.size
    clear hbx1 hown1 hk1 hk2
    go_wp2_with fail
    refine (Append_new base _ _ _ [wExec, wNone] W2 hown2 (by omega) (by omega) (by simp) _ rfl _ rfl).mono ?_
    rintro e W3 ⟨o3, rfl, hown3, hk3⟩
    have hbx3 := hk3.block (by decide) hbx2
    have hb3 := box_cells hbx3
    have hK3 := hK2.trans hk3
    have hsz3 := hK3.size
    clear hbx2 hown2 hk3 x0 x1 x2
    obtain ⟨x0, x1, x2⟩ := hb3
    go_wp2_with fail
    refine (Append_new base _ _ _ [wData, data] W3 hown3 (by omega) (by omega) (by simp) _ rfl _ rfl).mono ?_
    rintro e W4 ⟨o4, rfl, hown4, hk4⟩
    have hbx4 := hk4.block (by decide) hbx3
    have hb4 := box_cells hbx4
    have hK4 := hK3.trans hk4
    have hsz4 := hK4.size
    clear hbx3 hown3 hk4 x0 x1 x2
    obtain ⟨x0, x1, x2⟩ := hb4
    go_wp2_with fail
    refine (Append_new base _ _ _ [wClose] W4 hown4 (by omega) (by omega) (by simp) _ rfl _ rfl).mono ?_
    rintro e W5 ⟨o5, rfl, hown5, hk5⟩
    have hbx5 := hk5.block (by decide) hbx4
    have hb5 := box_cells hbx5
    have hK5 := hK4.trans hk5
    have hsz5 := hK5.size
    clear hbx4 hown4 hk5 x0 x1 x2
    obtain ⟨x0, x1, x2⟩ := hb5
    go_wp2
    go_ret2
    refine ⟨_, _, rfl, ?_, (by rw [HX2.out]; first | exact (hrA.out (by assumption)).below hK5.bel | exact hrB.out.below hK5.bel), hK5⟩
    rw [HX1.out]
    simpa [cellsOf_append, List.append_assoc, List.length_append, Nat.add_assoc] using hown5

set_option maxRecDepth 20000 in
set_option maxHeartbeats 1000000 in
theorem node_link (f : Nat) (base : Nat) (o : Value) (k : Nat) (xs : List Value) (v : Value) (path : ByteArray) (data : ByteArray) (r : List Nd) (w : World)
    (hown : w.ownsRow base 5 1 o k xs) (hbase : base ≤ w.heap.size) (hv : SliceB base w v (⟨path, 3, data⟩ :: r)) (hsm : Small (⟨path, 3, data⟩ :: r)) (hbk : k + bulk (⟨path, 3, data⟩ :: r) ≤ 1000000000000 + 200 + path.size) :
    Calls Tryd.prog 18 #[o, v] w fun e w' => ∃ o' v', e = .returned (.tuple #[o', v']) ∧
      w'.ownsRow base 5 1 o' (k + (nodeF (entsF f) ⟨path, 3, data⟩ r).1.length) (xs ++ cellsOf (nodeF (entsF f) ⟨path, 3, data⟩ r).1) ∧ SliceB base w' v' (nodeF (entsF f) ⟨path, 3, data⟩ r).2 ∧ K5 base w w' := by
  have hbb := nodeF_bulk (entsF f) (entsF_bulk f) ⟨path, 3, data⟩ r
  obtain ⟨X, hX⟩ : ∃ X, nodeF (entsF f) ⟨path, 3, data⟩ r = X := ⟨_, rfl⟩
  rw [hX] at hbb ⊢
  simp only at hbb
  have HX1 : Hid (X.1 = bytesOf [wOpen, wType, wordOf 3] ++ (bytesOf [wTo, data]) ++ bytesOf [wClose]) := by show _ = _; rw [← hX]; simp [nodeF, bodyF]
  have HX2 : Hid (X.2 = r) := by show _ = _; rw [← hX]; simp [nodeF, bodyF]
  clear hX
  have hhd := head_le 3
  have hcl := close_le
  have hdl := data_le data
  have htl := to_le data
  have hxl := exec_le
  have hbk' : k + (1000 + path.size + data.size + bulk r) ≤ 1000000000000 + 200 + path.size := hbk
  obtain ⟨a, cap, rfl, hcap, hmax, hcells⟩ := hv
  obtain ⟨b, off, rfl, hbB, hN⟩ := hcells (by simp)
  obtain ⟨c0, c1, c2⟩ := hN 0 (by simp)
  simp only [Nat.zero_mul, Nat.add_zero, List.getElem_cons_zero] at c0 c1 c2
  rw [List.length_cons] at hcap ⊢
  have hl := hsm.1
  rw [List.length_cons] at hl
  have hsp := hsm.2 _ (List.mem_cons_self)
  simp only at hsp
  have hrA : Hid (cap = 1 → SliceB base w (.slice (some ⟨b, off, none⟩) r.length 0) r) := fun h => ⟨_, _, rfl, by omega, by omega, fun h2 => by omega⟩
  have hrB : Hid (SliceB base w (.slice (some ⟨b, off + 3, none⟩) r.length (cap - 1)) r) := ⟨_, _, rfl, by omega, by omega, fun _ => ⟨b, off + 3, rfl, hbB, hN.tail⟩⟩
  have hsr := hide hsm.tail
  unfold maxLen at hmax
  have h1z : (1 : Int) ≤ (r.length : Int) + 1 := by omega
  have hbl : b < w.heap.size := by omega
  have d0 : ∀ ob, (w.alloc ob).cell? ⟨b, off, none⟩ = some (.string path) := fun ob => by rw [World.cell?_alloc_past _ _ _ hbl]; exact c0
  have d1 : ∀ ob, (w.alloc ob).cell? ⟨b, off + 1, none⟩ = some (.int .i64 3) := fun ob => by rw [World.cell?_alloc_past _ _ _ hbl]; exact c1
  have d2 : ∀ ob, (w.alloc ob).cell? ⟨b, off + 2, none⟩ = some (.string data) := fun ob => by rw [World.cell?_alloc_past _ _ _ hbl]; exact c2
  have hk1 : K5 base w (w.alloc (.cells #[.string path, .int .i64 3, .string data] 37)).drew := ((K5.refl base w).alloc hbase _).drew
  have hown1 : (w.alloc (.cells #[.string path, .int .i64 3, .string data] 37)).drew.ownsRow base 5 1 o k xs := (hown.alloc _).drew
  have hbx1 : (w.alloc (.cells #[.string path, .int .i64 3, .string data] 37)).drew.heap[w.heap.size]? = some (.cells #[.string path, .int .i64 3, .string data] 37) := block_new w _
  have hW : ∃ W1, W1 = (w.alloc (.cells #[.string path, .int .i64 3, .string data] 37)).drew := ⟨_, rfl⟩
  clear hsm hcells hN hbk
  by_cases hc1 : cap = 1
  all_goals
    go_enter Tryd.func18, Tryd.ntmps18
    go_wp2
    go_region
    clear c0 c1 c2 d0 d1 d2
    go_wp2_with fail
    obtain ⟨W1, hW1⟩ := hW
    rw [← hW1] at hk1 hown1 hbx1 ⊢
    clear hW1
    refine (kindWord_any 3 W1).mono ?_
    rintro e w2 ⟨rfl, rfl⟩
    have hsz1 := hk1.size
    go_wp2_with fail
    refine (Append_new base _ _ _ [wOpen, wType, wordOf 3] w2 hown1 (by omega) (by omega) (by simp) _ rfl _ rfl).mono ?_
    rintro e W2 ⟨o2, rfl, hown2, hk2⟩
    have hbx2 := hk2.block (by decide) hbx1
    obtain ⟨x0, x1, x2⟩ := box_cells hbx2
    have hK2 := hk1.trans hk2
    have hsz2 := hK2.size
    clear hbx1 hown1 hk1 hk2
    go_wp2_with fail
    refine (Append_new base _ _ _ [wTo, data] W2 hown2 (by omega) (by omega) (by simp) _ rfl _ rfl).mono ?_
    rintro e W3 ⟨o3, rfl, hown3, hk3⟩
    have hbx3 := hk3.block (by decide) hbx2
    have hb3 := box_cells hbx3
    have hK3 := hK2.trans hk3
    have hsz3 := hK3.size
    clear hbx2 hown2 hk3 x0 x1 x2
    obtain ⟨x0, x1, x2⟩ := hb3
    go_wp2_with fail
    refine (Append_new base _ _ _ [wClose] W3 hown3 (by omega) (by omega) (by simp) _ rfl _ rfl).mono ?_
    rintro e W4 ⟨o4, rfl, hown4, hk4⟩
    have hbx4 := hk4.block (by decide) hbx3
    have hb4 := box_cells hbx4
    have hK4 := hK3.trans hk4
    have hsz4 := hK4.size
    clear hbx3 hown3 hk4 x0 x1 x2
    obtain ⟨x0, x1, x2⟩ := hb4
    go_wp2
    go_ret2
    refine ⟨_, _, rfl, ?_, (by rw [HX2.out]; first | exact (hrA.out (by assumption)).below hK4.bel | exact hrB.out.below hK4.bel), hK4⟩
    rw [HX1.out]
    simpa [cellsOf_append, List.append_assoc, List.length_append, Nat.add_assoc] using hown4

set_option maxRecDepth 20000 in
set_option maxHeartbeats 1000000 in
theorem node_dir (f : Nat) (hE : PEnts f) (base : Nat) (o : Value) (k : Nat) (xs : List Value) (v : Value) (path : ByteArray) (data : ByteArray) (r : List Nd) (w : World)
    (hown : w.ownsRow base 5 1 o k xs) (hbase : base ≤ w.heap.size) (hv : SliceB base w v (⟨path, 4, data⟩ :: r)) (hsm : Small (⟨path, 4, data⟩ :: r)) (hkd : Kinds (⟨path, 4, data⟩ :: r)) (hf : r.length ≤ f) (hbk : k + bulk (⟨path, 4, data⟩ :: r) ≤ 1000000000000 + 200 + path.size) :
    Calls Tryd.prog 18 #[o, v] w fun e w' => ∃ o' v', e = .returned (.tuple #[o', v']) ∧
      w'.ownsRow base 5 1 o' (k + (nodeF (entsF f) ⟨path, 4, data⟩ r).1.length) (xs ++ cellsOf (nodeF (entsF f) ⟨path, 4, data⟩ r).1) ∧ SliceB base w' v' (nodeF (entsF f) ⟨path, 4, data⟩ r).2 ∧ K5 base w w' := by
  have hbb := nodeF_bulk (entsF f) (entsF_bulk f) ⟨path, 4, data⟩ r
  obtain ⟨X, hX⟩ : ∃ X, nodeF (entsF f) ⟨path, 4, data⟩ r = X := ⟨_, rfl⟩
  rw [hX] at hbb ⊢
  simp only at hbb
  have HX1 : Hid (X.1 = bytesOf [wOpen, wType, wordOf 4] ++ (entsF f r (prefixIn path)).1 ++ bytesOf [wClose]) := by show _ = _; rw [← hX]; simp [nodeF, bodyF]
  have HX2 : Hid (X.2 = (entsF f r (prefixIn path)).2) := by show _ = _; rw [← hX]; simp [nodeF, bodyF]
  clear hX
  have hEb := entsF_bulk f r (prefixIn path)
  have hkr := hide (show Kinds r from fun n hn => hkd n (List.mem_cons_of_mem _ hn))
  have HE := hide hE
  clear hE hkd
  have hhd := head_le 4
  have hcl := close_le
  have hdl := data_le data
  have htl := to_le data
  have hxl := exec_le
  have hbk' : k + (1000 + path.size + data.size + bulk r) ≤ 1000000000000 + 200 + path.size := hbk
  obtain ⟨a, cap, rfl, hcap, hmax, hcells⟩ := hv
  obtain ⟨b, off, rfl, hbB, hN⟩ := hcells (by simp)
  obtain ⟨c0, c1, c2⟩ := hN 0 (by simp)
  simp only [Nat.zero_mul, Nat.add_zero, List.getElem_cons_zero] at c0 c1 c2
  rw [List.length_cons] at hcap ⊢
  have hl := hsm.1
  rw [List.length_cons] at hl
  have hsp := hsm.2 _ (List.mem_cons_self)
  simp only at hsp
  have hrA : Hid (cap = 1 → SliceB base w (.slice (some ⟨b, off, none⟩) r.length 0) r) := fun h => ⟨_, _, rfl, by omega, by omega, fun h2 => by omega⟩
  have hrB : Hid (SliceB base w (.slice (some ⟨b, off + 3, none⟩) r.length (cap - 1)) r) := ⟨_, _, rfl, by omega, by omega, fun _ => ⟨b, off + 3, rfl, hbB, hN.tail⟩⟩
  have hsr := hide hsm.tail
  unfold maxLen at hmax
  have h1z : (1 : Int) ≤ (r.length : Int) + 1 := by omega
  have hbl : b < w.heap.size := by omega
  have d0 : ∀ ob, (w.alloc ob).cell? ⟨b, off, none⟩ = some (.string path) := fun ob => by rw [World.cell?_alloc_past _ _ _ hbl]; exact c0
  have d1 : ∀ ob, (w.alloc ob).cell? ⟨b, off + 1, none⟩ = some (.int .i64 4) := fun ob => by rw [World.cell?_alloc_past _ _ _ hbl]; exact c1
  have d2 : ∀ ob, (w.alloc ob).cell? ⟨b, off + 2, none⟩ = some (.string data) := fun ob => by rw [World.cell?_alloc_past _ _ _ hbl]; exact c2
  have hk1 : K5 base w (w.alloc (.cells #[.string path, .int .i64 4, .string data] 37)).drew := ((K5.refl base w).alloc hbase _).drew
  have hown1 : (w.alloc (.cells #[.string path, .int .i64 4, .string data] 37)).drew.ownsRow base 5 1 o k xs := (hown.alloc _).drew
  have hbx1 : (w.alloc (.cells #[.string path, .int .i64 4, .string data] 37)).drew.heap[w.heap.size]? = some (.cells #[.string path, .int .i64 4, .string data] 37) := block_new w _
  have hW : ∃ W1, W1 = (w.alloc (.cells #[.string path, .int .i64 4, .string data] 37)).drew := ⟨_, rfl⟩
  clear hsm hcells hN hbk
  by_cases hc1 : cap = 1
  all_goals
    go_enter Tryd.func18, Tryd.ntmps18
    go_wp2
    go_region
    clear c0 c1 c2 d0 d1 d2
    go_wp2_with fail
    obtain ⟨W1, hW1⟩ := hW
    rw [← hW1] at hk1 hown1 hbx1 ⊢
    clear hW1
    refine (kindWord_any 4 W1).mono ?_
    rintro e w2 ⟨rfl, rfl⟩
    have hsz1 := hk1.size
    go_wp2_with fail
    refine (Append_new base _ _ _ [wOpen, wType, wordOf 4] w2 hown1 (by omega) (by omega) (by simp) _ rfl _ rfl).mono ?_
    rintro e W2 ⟨o2, rfl, hown2, hk2⟩
    have hbx2 := hk2.block (by decide) hbx1
    obtain ⟨x0, x1, x2⟩ := box_cells hbx2
    have hK2 := hk1.trans hk2
    have hsz2 := hK2.size
    clear hbx1 hown1 hk1 hk2
    go_wp2_with fail
    refine (prefixIn_any path W2 (by omega)).mono ?_
    rintro e w3 ⟨rfl, rfl⟩
    go_wp2_with fail
    refine (HE.out base _ _ _ _ r (prefixIn path) w3 hown2 (by omega) (by first | exact (hrA.out (by assumption)).below hK2.bel | exact hrB.out.below hK2.bel) hsr.out hkr.out hf (by omega)).mono ?_
    rintro e W4 ⟨o4, v4, rfl, hown4, hsl4, hk4⟩
    have hK4 := hK2.trans hk4
    have hsz4 := hK4.size
    go_wp2_with fail
    refine (Append_new base _ _ _ [wClose] W4 hown4 (by omega) (by omega) (by simp) _ rfl _ rfl).mono ?_
    rintro e W5 ⟨o5, rfl, hown5, hk5⟩
    go_wp2
    go_ret2
    refine ⟨_, _, rfl, ?_, (by rw [HX2.out]; exact hsl4.below hk5.bel), hK4.trans hk5⟩
    rw [HX1.out]
    simpa [cellsOf_append, List.append_assoc, List.length_append, Nat.add_assoc] using hown5

theorem node_of (f : Nat) (hE : PEnts f) : PNode f := by
  intro base o k xs v n r w hown hbase hv hsm hkd hf hbk
  obtain ⟨path, kind, data⟩ := n
  have hk := hkd _ (List.mem_cons_self)
  simp only at hk
  rcases hk with rfl | rfl | rfl | rfl
  · exact node_file f base o k xs v path data r w hown hbase hv hsm hbk
  · exact node_exec f base o k xs v path data r w hown hbase hv hsm hbk
  · exact node_link f base o k xs v path data r w hown hbase hv hsm hbk
  · exact node_dir f hE base o k xs v path data r w hown hbase hv hsm hkd hf hbk

end Go.Proofs.YtpbjdfobbnpjfaaDoor
