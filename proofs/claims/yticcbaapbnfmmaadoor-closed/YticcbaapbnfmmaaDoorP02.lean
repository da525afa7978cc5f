import Derived.Test.YticcbaapbnfmmaaDoorP01
import Derived.Deep.RegionWith
namespace Go.Proofs.YticcbaapbnfmmaaDoor
open Go.RowKit

def notAbove (n last : ByteArray) : Bool := Op.bytesLess n.toList last.toList || n.toList == last.toList
def placeRest (ds : List (ByteArray × ByteArray)) (path : ByteArray) (kind : Int) : Option (List (ByteArray × ByteArray)) :=
  let a := above ds (pre path)
  if a = 0 ∨ 5 < a then none else if isNameB (nam path).data.toList = false then none else if notAbove (nam path) (ds.getD (a - 1) (⟨#[]⟩, ⟨#[]⟩)).2 = true then none
  else some (enterL ((ds.take a).set (a - 1) ((ds.getD (a - 1) (⟨#[]⟩, ⟨#[]⟩)).1, nam path)) path kind)

theorem box_cells {w : World} {b : Nat} {x y z : Value} {t : TypeId} (h : w.heap[b]? = some (.cells #[x, y, z] t (0, 0))) : w.cell? ⟨b, 0, none⟩ = some x ∧ w.cell? ⟨b, 1, none⟩ = some y ∧ w.cell? ⟨b, 2, none⟩ = some z := by
  simp [World.cell?, h]
theorem block_new (w : World) (o : Obj) : (w.alloc o).heap[w.heap.size]? = some o := by
  show (w.heap.push o)[w.heap.size]? = _
  simp

set_option maxRecDepth 20000 in
set_option maxHeartbeats 1000000 in
theorem place_root (base : Nat) (v : Value) (ds : List (ByteArray × ByteArray)) (path : ByteArray) (kind : Int) (data : ByteArray) (w : World) (hown : w.ownsRow base 105 2 v ds.length (flat2 ds)) (hbase : base ≤ w.heap.size) (hlen : ds.length ≤ 1000) (hs : path.size ≤ 1000000000) :
    Calls Tryd.prog 39 #[v, .agg #[.string path, .int .i64 kind, .string data], .bool true] w fun e w' => ∃ v', e = .returned (.tuple #[v', .bool path.toList.isEmpty]) ∧ w'.ownsRow base 105 2 v' (enterL ds path kind).length (flat2 (enterL ds path kind)) ∧ KE 105 base w w' := by
  go_enter Tryd.func39, Tryd.ntmps39
  go_wp2
  go_region_with (go_at_call 47; refine (enter_any base v ds path kind data _ ?_ ?_ hlen hs).mono ?_; exact (hown.alloc _).drew; (simp; omega); rintro e w1 ⟨v1, rfl, hown1, hk1⟩; have hbx := box_cells (hk1.block (t := 45) (by decide) (block_new w _)); obtain ⟨hx0, hx1, hx2⟩ := hbx)
  all_goals go_wp2
  all_goals go_ret2
  all_goals exact ⟨_, rfl, hown1, (((KE.refl 105 base w).alloc hbase _).drew).trans hk1⟩

theorem own_take {w : World} {B : Nat} {e : TypeId} {s g n m cap : Nat} {xs : List Value} (h : w.ownsRow B e s (.slice (some ⟨g, 0, none⟩) n cap) n xs) (hm : m ≤ n) : w.ownsRow B e s (.slice (some ⟨g, 0, none⟩) m cap) m (xs.take (m * s)) := by
  obtain ⟨h1, h2⟩ := h
  have hms : m * s ≤ n * s := Nat.mul_le_mul_right s hm
  rcases h2 with ⟨h0, _⟩ | ⟨g', cap', cur, hv, hg, hh, hn, hcap, hsz, htake⟩
  · cases h0
  · cases hv
    refine ⟨by rw [List.length_take, h1]; omega, .inr ⟨g, cap, cur, rfl, hg, hh, by omega, hcap, hsz, ?_⟩⟩
    rw [← htake, List.take_take, Nat.min_eq_left hms]
theorem size_drewN (w : World) (n : Nat) : (w.drewN n).heap = w.heap := by simp
theorem nam_size (s : ByteArray) : (nam s).size ≤ s.size := by simp [nam, ByteArray.size_extract]

set_option maxRecDepth 20000 in
set_option maxHeartbeats 2000000 in
theorem place_rest (w0 : World) (hT : Lib.Utf8Tabs 0 1 w0) (v : Value) (ds : List (ByteArray × ByteArray)) (path : ByteArray) (kind : Int) (data : ByteArray) (w : World) (h0 : Below w0.heap.size w0 w)
    (hown : w.ownsRow w0.heap.size 105 2 v ds.length (flat2 ds)) (hlen : ds.length ≤ 1000) (hs : path.size ≤ 1000000000) :
    Calls Tryd.prog 39 #[v, .agg #[.string path, .int .i64 kind, .string data], .bool false] w fun e w' => ∃ v', e = .returned (.tuple #[v', .bool (placeRest ds path kind).isSome]) ∧ (∀ ds', placeRest ds path kind = some ds' → w'.ownsRow w0.heap.size 105 2 v' ds'.length (flat2 ds')) ∧ KE 105 w0.heap.size w w' := by
  have hsz0 := h0.size
  have cS := hide (split_any path (w.alloc (.cells #[.string path, .int .i64 kind, .string data] 45)) hs)
  obtain ⟨R, hR⟩ : ∃ R, placeRest ds path kind = R := ⟨_, rfl⟩
  rw [hR]
  unfold placeRest at hR
  have hns : (nam path).size ≤ 1000000000 := Nat.le_trans (nam_size path) hs
  generalize nam path = nm at cS hR hns
  generalize pre path = pr at cS hR
  obtain ⟨A, hA⟩ : ∃ A, above ds pr = A := ⟨_, rfl⟩
  have hAle : A ≤ ds.length := by rw [← hA]; exact above_le ds pr
  rw [hA] at hR
  have cC : ∀ W : World, W.ownsRow w0.heap.size 105 2 v ds.length (flat2 ds) → Calls Tryd.prog 49 #[v, .string pr] W fun e w' => e = .returned (.int .i64 (A : Int)) ∧ Below W.heap.size W w' := fun W hW => by rw [← hA]; exact countAbove_any _ v ds pr W hW hlen
  have CC := hide cC
  have HR := hide hR
  clear cC hR hA
  go_enter Tryd.func39, Tryd.ntmps39
  go_wp2_with fail
  refine cS.out.mono ?_
  rintro e w1 ⟨rfl, n1, rfl⟩
  clear cS
  have hownA : ((w.alloc (.cells #[.string path, .int .i64 kind, .string data] 45)).drewN n1).ownsRow w0.heap.size 105 2 v ds.length (flat2 ds) := hown.alloc _
  have hk1 : KE 105 w0.heap.size w ((w.alloc (.cells #[.string path, .int .i64 kind, .string data] 45)).drewN n1) := ((KE.refl 105 w0.heap.size w).alloc hsz0 _).drewN n1
  have hbx : ((w.alloc (.cells #[.string path, .int .i64 kind, .string data] 45)).drewN n1).heap[w.heap.size]? = some (.cells #[.string path, .int .i64 kind, .string data] 45) := by rw [size_drewN]; exact block_new w _
  go_wp2_with fail
  generalize (w.alloc (.cells #[.string path, .int .i64 kind, .string data] 45)).drewN n1 = W1 at hownA hk1 hbx ⊢
  refine (CC.out W1 hownA).mono ?_
  rintro e W2 ⟨rfl, hb2⟩
  clear CC
  have hown2 := own_below hownA hb2
  have hk2 : KE 105 w0.heap.size w W2 := hk1.trans (KE.of_below hb2 (by have := hk1.size; omega))
  have hbx2 : W2.heap[w.heap.size]? = some (.cells #[.string path, .int .i64 kind, .string data] 45) := by rw [hb2.block _ (lt_of_block hbx)]; exact hbx
  have hsz2 := hk2.size
  clear hbx hk1 hownA hb2 hown
  by_cases hA1 : A = 0
  · subst hA1
    have hRn : R = none := by rw [← HR.out]; simp
    subst hRn
    clear HR
    go_wp2
    go_ret2
    exact ⟨_, rfl, (fun _ h => by cases h), hk2⟩
  · have hA1b : ((A : Int) == 0) = false := beq_eq_false_iff_ne.2 (by omega)
    by_cases hA5 : 5 < A
    · have hRn : R = none := by rw [← HR.out]; simp [hA5]
      have hA5z : (5 : Int) < A := by omega
      subst hRn
      clear HR hA1
      go_wp2
      go_ret2
      exact ⟨_, rfl, (fun _ h => by cases h), hk2⟩
    · have hA5z : ¬ (5 : Int) < A := by omega
      have hA5b : decide ((5 : Int) < A) = false := decide_eq_false hA5z
      have hT2 := Utf8Tabs_below hT (h0.trans hk2.bel)
      have cN := hide (isName_any nm W2 hns hT2)
      have hR2 := HR.out
      rw [if_neg (by omega)] at hR2
      clear HR
      by_cases hN : isNameB nm.data.toList = true
      · rw [hN] at cN hR2
        rw [if_neg (by decide)] at hR2
        obtain ⟨m, rfl⟩ : ∃ m, A = m + 1 := ⟨A - 1, by omega⟩
        have g1 : ((m : Int) + 1 == 0) = false := beq_eq_false_iff_ne.2 (by omega)
        have g2 : decide ((5 : Int) < (m : Int) + 1) = false := decide_eq_false (by omega)
        have g3 : ¬ (5 : Int) < (m : Int) + 1 := by omega
        clear hA1b hA5b hA5z
        have hml : m < ds.length := by omega
        have hgD : ds.getD m (⟨#[]⟩, ⟨#[]⟩) = ds[m] := by simp [List.getD, hml]
        simp only [Nat.add_sub_cancel, hgD] at hR2
        have HR := hide hR2
        clear hR2 hN
        go_wp2_with fail
        refine cN.out.mono ?_
        rintro e W3 ⟨rfl, hb3⟩
        clear cN
        have hown3 := own_below hown2 hb3
        have hk3 : KE 105 w0.heap.size w W3 := hk2.trans (KE.of_below hb3 (by omega))
        have hbx3 : W3.heap[w.heap.size]? = some (.cells #[.string path, .int .i64 kind, .string data] 45) := by rw [hb3.block _ (lt_of_block hbx2)]; exact hbx2
        have hsz3 := hk3.size
        clear hown2 hk2 hbx2 hb3
        rcases hown3.2 with ⟨rfl, h00⟩ | ⟨g, cap, cur, rfl, hg1, hg2, hg3, hg4, hg5, hg6⟩
        · omega
        · clear hg5 hg6
          have c1 := (hown3.cellAt (m * 2 + 1) (by omega)).trans (flat2_1 ds m hml)
          have f1 := hown3.frozenAt (m * 2 + 1)
          have hgb : w.heap.size ≠ g := fun e => by rw [← e, hbx3] at hg2; simp at hg2
          by_cases hlt : notAbove nm ds[m].2 = true
          · have hRn : R = none := by rw [← HR.out, if_pos hlt]
            subst hRn
            unfold notAbove at hlt
            clear HR
            go_wp2
            go_ret2
            exact ⟨_, rfl, (fun _ h => by cases h), hk3⟩
          · have hRs : R = some (enterL ((ds.take (m + 1)).set m (ds[m].1, nm)) path kind) := by rw [← HR.out, if_neg hlt]
            subst hRs
            have hlt2 : notAbove nm ds[m].2 = false := by simpa using hlt
            unfold notAbove at hlt2
            rw [Bool.or_eq_false_iff] at hlt2
            obtain ⟨hl1, hl2⟩ := hlt2
            have hcapz : (m : Int) + 1 ≤ cap := by omega
            have hst := ((own_take hown3 (m := m + 1) (by omega)).stored (m * 2 + 1) (.string nm))
            have hfl : ((flat2 ds).take ((m + 1) * 2)).set (m * 2 + 1) (.string nm) = flat2 ((ds.take (m + 1)).set m (ds[m].1, nm)) := by
              rw [flat2_take, flat2_set _ m (by rw [List.length_take]; omega)]
              simp
            have hln : ((ds.take (m + 1)).set m (ds[m].1, nm)).length = m + 1 := by rw [List.length_set, List.length_take]; omega
            rw [hfl] at hst
            obtain ⟨D, hD⟩ : ∃ D, (ds.take (m + 1)).set m (ds[m].1, nm) = D := ⟨_, rfl⟩
            rw [hD] at hst hln
            have HD := hide hD
            clear hD
            have hst2 := hide hst
            obtain ⟨x0, x1, x2⟩ := box_cells hbx3
            clear HR hlt hst hfl
            go_wp2_with fail
            refine (enter_any w0.heap.size (.slice (some ⟨g, 0, none⟩) (m + 1) cap) D path kind data (W3.setCell ⟨g, m * 2 + 1, none⟩ (.string nm)) (by rw [hln]; exact hst2.out.1) (by have := hst2.out.2.size; omega) (by omega) hs).mono ?_
            rintro e W4 ⟨v4, rfl, hown4, hk4⟩
            go_wp2
            go_ret2
            exact ⟨_, rfl, (fun _ h => by cases h; rw [HD.out]; exact hown4), (hk3.grown hown3 hst2.out.2 (by omega)).trans hk4⟩
      · have hN' : isNameB nm.data.toList = false := by simpa using hN
        rw [hN'] at cN hR2
        rw [if_pos rfl] at hR2
        subst hR2
        clear hN hN'
        go_wp2_with fail
        refine cN.out.mono ?_
        rintro e W3 ⟨rfl, hb3⟩
        clear cN
        go_wp2
        go_ret2
        exact ⟨_, rfl, (fun _ h => by cases h), hk2.trans (KE.of_below hb3 (by omega))⟩
end Go.Proofs.YticcbaapbnfmmaaDoor
