import Derived.Test.YticfcjmlphhpgabGreatDoorB24
import Derived.Test.YticfcjmlphhpgabGreatDoorB30
import Derived.Test.YticfcjmlphhpgabGreatDoorB31
import Derived.Deep.CutBlock
import Derived.Deep.RegionHeld3
namespace Go.Proofs.YticfcjmlphhpgabGreatDoor
open Go.RowKit Go.Maps

set_option maxRecDepth 20000 in
set_option maxHeartbeats 1000000 in
theorem same_anyG (b off cap b' off' cap' : Nat) (ns : List Nd) (w : World) (_hbl : b < w.heap.size) (_hbl' : b' < w.heap.size) (hN : NodesAt w b off ns) (hN' : NodesAt w b' off' ns) (hln : ns.length ≤ 1000000) (hpos : 0 < ns.length) :
    Calls Tryz.prog 26 #[.slice (some ⟨b, off, none⟩) ns.length cap, .slice (some ⟨b', off', none⟩) ns.length cap'] w fun e w' => e = .returned (.bool true) ∧ Below w.heap.size w w' := by
  have HN := hide hN
  have HN' := hide hN'
  clear hN hN'
  go_enter Tryz.func26, Tryz.ntmps26
  go_wp2
  go_loopw [5, 13] (fun _ i w1 => ∃ j n : Nat, j ≤ ns.length ∧ i = .int .i64 j ∧ Hid (w1 = w.drewN n)) (fun _ i _ => ns.length - (intOf i).toNat)
  case atStart => exact ⟨0, 0, by omega, rfl, rfl⟩
  case round =>
    obtain ⟨j, n, hj, rfl, HW⟩ := hrel
    have hcl : ∀ a, wr.cell? a = w.cell? a := fun a => by rw [HW.out]; simp
    by_cases hlt : j < ns.length
    · obtain ⟨c0, c1, c2⟩ := HN.out j hlt
      obtain ⟨d0, d1, d2⟩ := HN'.out j hlt
      rw [← hcl] at c0 c1 c2 d0 d1 d2
      generalize ns[j] = y at c0 c1 c2 d0 d1 d2
      obtain ⟨yp, yk, yd⟩ := y
      simp only at c0 c1 c2 d0 d1 d2
      have hltz : (j : Int) < ns.length := by omega
      clear hcl
      go_wp2
      go_quiet (fail)
      go_wp2
      go_roundw
      case rel => exact ⟨j + 1, n + nq, by omega, by go_num, by show _ = _; rw [HW.out, World.drewN_drewN]⟩
      case measure => simp [intOf]; omega
    · clear hcl
      go_wp2
      go_ret
      exact ⟨rfl, by rw [HW.out]; exact below_drewN (Below.refl _ _) n⟩

set_option maxRecDepth 20000 in
set_option maxHeartbeats 400000 in
theorem same_nil (a a' : Option Addr) (cap cap' : Nat) (w : World) : Calls Tryz.prog 26 #[.slice a 0 cap, .slice a' 0 cap'] w fun e w' => e = .returned (.bool true) ∧ Below w.heap.size w w' := by
  go_enter Tryz.func26, Tryz.ntmps26
  go_wp2
  refine wp_loop_rounds 1 ?_
  rw [rounds_succ]
  go_wp2
  go_ret
  exact ⟨rfl, Below.refl _ _⟩


end Go.Proofs.YticfcjmlphhpgabGreatDoor
/-
  Which of n things; two entries.
-/
namespace Go.Proofs.YticfcjmlphhpgabGreatDoor
open Go.RowKit Go.Maps

theorem pick_neg {c : Int} {n : Nat} (hn : 0 < n) (hc : c < 0) : -(c + 1).tmod (n : Int) = (((-(c + 1)) % (n : Int)).toNat : Int) ∧ ((-(c + 1)) % (n : Int)).toNat < n := by
  have h0 : (0 : Int) ≤ -(c + 1) := by omega
  have hn' : (0 : Int) < n := by omega
  have h1 := Int.emod_nonneg (-(c + 1)) (by omega : (n : Int) ≠ 0)
  have h2 := Int.emod_lt_of_pos (-(c + 1)) hn'
  constructor
  · rw [Int.toNat_of_nonneg h1, ← Int.tmod_eq_emod_of_nonneg h0, Int.neg_tmod]
  · omega
/-- Which of n things a number speaks of. -/
def pickN (c : Int) (n : Nat) : Nat := if c < 0 then ((-(c + 1)) % (n : Int)).toNat else (c % (n : Int)).toNat
theorem pickN_lt (c : Int) {n : Nat} (hn : 0 < n) : pickN c n < n := by
  have hn' : (0 : Int) < n := by omega
  unfold pickN
  split
  · have := Int.emod_lt_of_pos (-(c + 1)) hn'
    omega
  · have := Int.emod_lt_of_pos c hn'
    omega
set_option maxRecDepth 20000 in
set_option maxHeartbeats 400000 in
theorem pick_det (c : Int) (n : Nat) (hn : 0 < n) (hl : n ≤ 1000000) (hc : -9223372036854775808 ≤ c ∧ c ≤ 9223372036854775807) (w : World) : Calls Tryz.prog 7 #[.int .i64 c, .int .i64 n] w fun e w' => e = .returned (.int .i64 (pickN c n : Nat)) ∧ w' = w := by
  unfold pickN
  by_cases h : c < 0
  · rw [if_pos h]
    obtain ⟨i, hi, h1⟩ : ∃ i : Nat, ((-(c + 1)) % (n : Int)).toNat = i ∧ -(c + 1).tmod (n : Int) = i := ⟨_, rfl, (pick_neg hn h).1⟩
    rw [hi]
    clear hi
    go_enter Tryz.func7, Tryz.ntmps7
    go_wp2
    go_ret
    exact ⟨rfl, rfl⟩
  · rw [if_neg h]
    have h1 := Int.emod_nonneg c (by omega : (n : Int) ≠ 0)
    have h3 : c % (n : Int) = ((c % (n : Int)).toNat : Int) := (Int.toNat_of_nonneg h1).symm
    generalize (c % (n : Int)).toNat = i at h3 ⊢
    clear h1
    go_enter Tryz.func7, Tryz.ntmps7
    go_wp2
    go_ret
    exact ⟨rfl, rfl⟩
theorem same_tree (v v' : Value) (ns : List Nd) (w : World) (h : SliceN w v ns) (h' : SliceN w v' ns) (hl : ns.length ≤ 1000000) :
    Calls Tryz.prog 26 #[v, v'] w fun e w' => e = .returned (.bool true) ∧ Below w.heap.size w w' := by
  obtain ⟨a, cap, rfl, _, _, _, h4⟩ := h
  obtain ⟨a', cap', rfl, _, _, _, h4'⟩ := h'
  by_cases h0 : 0 < ns.length
  · obtain ⟨b, off, rfl, h5, h6⟩ := h4 h0
    obtain ⟨b', off', rfl, h5', h6'⟩ := h4' h0
    exact same_anyG b off cap b' off' cap' ns w h5 h5' h6 h6' hl h0
  · have e : ns.length = 0 := by omega
    rw [e]
    exact same_nil a a' cap cap' w
end Go.Proofs.YticfcjmlphhpgabGreatDoor
/-
  A path that has the same entry in two stores.
-/
namespace Go.Proofs.YticfcjmlphhpgabGreatDoor
open Go.RowKit Go.Maps

theorem cellBG {w w' : World} {a : Addr} {u : Value} (h : Below w.heap.size w w') (hc : w.cell? a = some u) : w'.cell? a = some u := (h.cell (World.block_lt_of_cell? _ _ hc)).trans hc
theorem cellAG {w : World} {a : Addr} {u : Value} (o : Obj) (h : w.cell? a = some u) : (w.alloc o).cell? a = some u := cellBG ((Below.refl _ w).alloc (Nat.le_refl _) o) h
theorem belAG {w w1 : World} (h : Below w.heap.size w w1) (o : Obj) : Below w.heap.size w (w1.alloc o) := h.alloc h.size o
theorem three_newG (w : World) (a b c : Value) (t : TypeId) : (w.alloc (.cells #[a, b, c] t)).cell? ⟨w.heap.size, 0, none⟩ = some a ∧ (w.alloc (.cells #[a, b, c] t)).cell? ⟨w.heap.size, 1, none⟩ = some b ∧ (w.alloc (.cells #[a, b, c] t)).cell? ⟨w.heap.size, 2, none⟩ = some c := by
  have h := block_new w (.cells #[a, b, c] t)
  refine ⟨?_, ?_, ?_⟩ <;> (simp only [World.cell?, h]; rfl)
theorem sumB_size (ns : List Nd) : (sumB ns).size = 8 := by
  show (List.toArray _).size = 8
  rw [List.size_toArray, le_length]
set_option maxRecDepth 20000 in
set_option maxHeartbeats 4000000 in
theorem sameEntry_any (q b q' b' : Nat) (S S' : List Ent) (p : ByteArray) (e : Ent) (w : World) (h : NSt w q b S) (h' : NSt w q' b' S') (hO : OkS S) (hO' : OkS S') (hT : Lib.Utf8Tabs 0 1 w) (hs : p.size ≤ 1000000000) (he : findS S p = some e) (he' : findS S' p = some e) (hln : e.nodes.length ≤ 1000000) (hlr : e.refs.length ≤ 1000000) :
    Calls Tryz.prog 13 #[.pointer (some ⟨q, 0, none⟩), .pointer (some ⟨q', 0, none⟩), .string p] w fun r w' => r = .returned (.bool true) ∧ Below w.heap.size w w' := by
  have hT2 := tabs2 hT
  have cX : Hid (∀ V, Below w.heap.size w V → Calls Tryz.prog 15 #[.pointer (some ⟨q, 0, none⟩), .string p] V fun r w' => ∃ ta tc ra rc, r = .returned (.tuple #[.agg #[.slice ta e.nodes.length tc, .slice ra e.refs.length rc, .string (sumB e.nodes)], .int .i64 0]) ∧ SliceN w' (.slice ta e.nodes.length tc) e.nodes ∧ SliceS w' (.slice ra e.refs.length rc) e.refs ∧ Below V.heap.size V w') := hide fun V hV => by
    refine (narGet_any q b S p V (h.below hV) hO (tabsB hT2 hT hV) hs).mono ?_
    unfold nodesR refsR sumR errG
    rw [he]
    rintro r w' ⟨ta, tc, ra, rc, rfl, h1, h2, hb⟩
    exact ⟨ta, tc, ra, rc, rfl, (own_nodes h1).1, own_strs h2, hb⟩
  have cY : Hid (∀ V, Below w.heap.size w V → Calls Tryz.prog 15 #[.pointer (some ⟨q', 0, none⟩), .string p] V fun r w' => ∃ ta tc ra rc, r = .returned (.tuple #[.agg #[.slice ta e.nodes.length tc, .slice ra e.refs.length rc, .string (sumB e.nodes)], .int .i64 0]) ∧ SliceN w' (.slice ta e.nodes.length tc) e.nodes ∧ SliceS w' (.slice ra e.refs.length rc) e.refs ∧ Below V.heap.size V w') := hide fun V hV => by
    refine (narGet_any q' b' S' p V (h'.below hV) hO' (tabsB hT2 hT hV) hs).mono ?_
    unfold nodesR refsR sumR errG
    rw [he']
    rintro r w' ⟨ta, tc, ra, rc, rfl, h1, h2, hb⟩
    exact ⟨ta, tc, ra, rc, rfl, (own_nodes h1).1, own_strs h2, hb⟩
  have hsz := sumB_size e.nodes
  clear h h' hO hO' hT he he' hT2
  generalize sumB e.nodes = sm at cX cY hsz
  generalize e.refs = rs at cX cY hlr
  generalize e.nodes = ns at cX cY hln
  have hsz' : ((sm.size : Nat) : Int) = 8 := by omega
  have hb' : (sm.toList == sm.toList) = true := by simp
  go_enter Tryz.func13, Tryz.ntmps13
  go_wp2_with fail
  refine (cX.out _ (Below.refl _ _)).mono ?_
  rintro r w2 ⟨ta, tc, ra, rc, rfl, h1, h2, hb2⟩
  obtain ⟨a0, a1, a2⟩ := three_newG w2 (.slice ta ns.length tc) (.slice ra rs.length rc) (.string sm) 46
  have HB3 := hide (belAG hb2 (.cells #[.slice ta ns.length tc, .slice ra rs.length rc, .string sm] 46))
  have hA := (Below.refl _ w2).alloc (Nat.le_refl _) (.cells #[.slice ta ns.length tc, .slice ra rs.length rc, .string sm] 46)
  have H1 := hide (h1.below hA)
  have H2 := hide (h2.below hA)
  clear h1 h2 hA hb2 cX
  go_wp2_with fail
  refine (cY.out _ HB3.out).mono ?_
  rintro r w4 ⟨ta', tc', ra', rc', rfl, h1, h2, hb4⟩
  have HB4 := hide (HB3.out.trans (hb4.mono HB3.out.size))
  have a40 := cellAG (.cells #[.slice ta' ns.length tc', .slice ra' rs.length rc', .string sm] 46) (cellBG hb4 a0)
  have a41 := cellAG (.cells #[.slice ta' ns.length tc', .slice ra' rs.length rc', .string sm] 46) (cellBG hb4 a1)
  have a42 := cellAG (.cells #[.slice ta' ns.length tc', .slice ra' rs.length rc', .string sm] 46) (cellBG hb4 a2)
  obtain ⟨d0, d1, d2⟩ := three_newG w4 (.slice ta' ns.length tc') (.slice ra' rs.length rc') (.string sm) 46
  have HB5 := hide (belAG HB4.out (.cells #[.slice ta' ns.length tc', .slice ra' rs.length rc', .string sm] 46))
  have hA := (Below.refl _ w4).alloc (Nat.le_refl _) (.cells #[.slice ta' ns.length tc', .slice ra' rs.length rc', .string sm] 46)
  have H1' := hide (h1.below hA)
  have H2' := hide (h2.below hA)
  have H1 := hide ((H1.out.below hb4).below hA)
  have H2 := hide ((H2.out.below hb4).below hA)
  clear h1 h2 hA hb4 cY a0 a1 a2 HB3 HB4
  go_wp2_with fail
  refine (same_tree _ _ ns _ H1.out H1'.out hln).mono ?_
  rintro r w6 ⟨rfl, hb6⟩
  have e0 := cellBG hb6 a40
  have e1 := cellBG hb6 a41
  have e2 := cellBG hb6 a42
  have f0 := cellBG hb6 d0
  have f1 := cellBG hb6 d1
  have f2 := cellBG hb6 d2
  have H2 := hide (H2.out.below hb6)
  have H2' := hide (H2'.out.below hb6)
  have HB6 := hide (HB5.out.trans (hb6.mono HB5.out.size))
  clear a40 a41 a42 d0 d1 d2 hb6 HB5 H1 H1'
  generalize w4.heap.size = k4 at f0 f1 f2 ⊢
  generalize w2.heap.size = k2 at e0 e1 e2 ⊢
  go_wp2
  go_loopw [6, 11, 63] (fun i _ x w1 => ∃ j n : Nat, j ≤ rs.length ∧ i = .bool false ∧ x = .int .i64 j ∧ Hid (w1 = w6.drewN n)) (fun _ _ i _ => rs.length - (intOf i).toNat)
  case atStart => exact ⟨0, 0, by omega, rfl, rfl, rfl⟩
  case round =>
    obtain ⟨j, n, hj, rfl, rfl, HW⟩ := hrel
    have hcl : ∀ a, wr.cell? a = w6.cell? a := fun a => by rw [HW.out]; simp
    rw [← hcl] at e0 e1 e2 f0 f1 f2
    by_cases hlt : j < rs.length
    · obtain ⟨_, _, q1, _, q3⟩ := H2.out
      obtain ⟨_, _, q1', _, q3'⟩ := H2'.out
      obtain ⟨g, o, rfl, _, g5⟩ := q3 (by omega)
      obtain ⟨g', o', rfl, _, g5'⟩ := q3' (by omega)
      have g5 := g5 j hlt
      have g5' := g5' j hlt
      rw [← hcl] at g5 g5'
      have hbr : (rs[j].toList == rs[j].toList) = true := by simp
      generalize rs[j] = y at g5 g5' hbr
      have hltz : (j : Int) < rs.length := by omega
      clear hcl q3 q3' H2 H2'
      go_wp2
      go_quiet (fail)
      go_wp2
      go_roundw
      case rel => exact ⟨j + 1, n + nq, by omega, rfl, by go_num, by show _ = _; rw [HW.out, World.drewN_drewN]⟩
      case measure => simp [intOf]; omega
    · clear hcl
      go_wp2
      go_ret
      exact ⟨rfl, by rw [HW.out]; exact below_drewN HB6.out n⟩
end Go.Proofs.YticfcjmlphhpgabGreatDoor
/-
  What must be known of a store for Export; what Moved needs.
-/
namespace Go.Proofs.YticfcjmlphhpgabGreatDoor
open Go.RowKit Go.Maps

theorem refsBs_le {M : Nat} : ∀ {refs : List ByteArray}, (∀ r ∈ refs, r.size ≤ M) → (refsBs refs).length ≤ refs.length * (M + 40)
  | [], _ => by simp [refsBs]
  | r :: l, h => by
    have e : refsBs (r :: l) = bytesOf [wRef, r] ++ refsBs l := by simp [refsBs]
    have h1 := bytesOf_cons wRef [r]
    have h2 := bytesOf_cons r []
    have a : wRef.size = 3 := rfl
    have h3 := h r (List.mem_cons_self)
    have h4 := refsBs_le (fun x hx => h x (List.mem_cons_of_mem _ hx))
    rw [bytesOf_nil] at h2
    rw [e, List.length_append, List.length_cons, Nat.add_mul]
    simp at h2
    omega
theorem ent_small {S : List Ent} (h : OkE S) (p : ByteArray) : (entOf S p).length ≤ 42000 := by
  unfold entOf
  split
  · rename_i e hf
    obtain ⟨he, rfl⟩ := findS_some hf
    rw [entBs_length]
    have h1 := bytesOf_cons wPath [e.path]
    have h2 := bytesOf_cons e.path []
    have h3 := bytesOf_cons wRefs []
    have h4 := bytesOf_cons wSum [sumO (packB e.nodes)]
    have h5 := bytesOf_cons (sumO (packB e.nodes)) []
    have a1 : wPath.size = 4 := rfl
    have a2 : wRefs.size = 4 := rfl
    have a3 : wSum.size = 3 := rfl
    have a4 := sumO_size (packB e.nodes)
    have hw : firstW e.nodes = none := by rw [firstW_ref]; exact (h.ok.tree e he).1.right
    have h10 := tree_small hw
    have h11 := bulk_tree e.nodes h10.2
    have h6 := packB_bulk e.nodes
    have h7 := h.path e he
    have h8 := refsBs_le (M := 12) (refs := e.refs) (fun r hr => by
      obtain ⟨f, hf', rfl⟩ := h.ok.closed.ref e he r hr
      exact h.path f hf')
    have h9 := h.few e he
    rw [bytesOf_nil] at h2 h3 h5
    simp at h2 h3 h5
    omega
  · simp
theorem OutOk.of {S : List Ent} (h : OkE S) (roots : List ByteArray) : OutOk S roots where
  len out ho := by
    unfold ClosR at ho
    split at ho
    · rw [ho]; simp
    · have := ho.1.len
      have := h.ok.closed.few
      omega
  mem out ho p hp := by
    unfold ClosR at ho
    split at ho
    · rw [ho] at hp; cases hp
    · obtain ⟨_, e, he, rfl⟩ := ho.1.mem p hp
      exact ⟨e, findS_eq h.ok.closed.rise he, by have := h.path e he; omega⟩
  sz p := by have := ent_small h p; omega
theorem export_small {S : List Ent} (h : OkE S) (roots out : List ByteArray) (ho : ClosR S roots out) : (exportB S roots out).size ≤ 500000 := by
  have h1 := (OutOk.of h roots).len out ho
  have h2 := outBs_len (ent_small h) out
  unfold exportB
  split
  · exact Nat.zero_le _
  · have h3 := bytesOf_cons wExp []
    have h4 := bytesOf_cons wEnd []
    have a1 : wExp.size ≤ 100 := by decide
    have a2 : wEnd.size ≤ 100 := by decide
    rw [bytesOf_nil] at h3 h4
    show (expBs S out).toArray.size ≤ _
    unfold expBs
    simp only [List.size_toArray, List.length_append]
    simp at h3 h4
    omega
/-- What is exported of a store at one root, and what another store has of it. -/
structure MvP (S : List Ent) (r : ByteArray) (out : List ByteArray) : Prop where
  base : ClosR S [r] out
  imp : importF [] (exportB S [r] out).data.toList = ((out, 0, 0), Tof S out)
  again : importF (Tof S out) (exportB S [r] out).data.toList = (([], 0, 0), Tof S out)
  lack : lackR (Tof S out) [r] = false
  clos : ClosR (Tof S out) [r] out
  same : exportB (Tof S out) [r] out = exportB S [r] out
  ok : OkR (Tof S out)
  len : (Tof S out).length = out.length
  ten : out.length ≤ 10
  size : (exportB S [r] out).size ≤ 500000
  ent : ∀ p ∈ out, ∃ e, findS S p = some e ∧ findS (Tof S out) p = some e ∧ p.size ≤ 1000000000 ∧ e.nodes.length ≤ 1000000 ∧ e.refs.length ≤ 1000000
theorem StN.lack {S : List Ent} {n i : Nat} (h : StN S n) (hi : i < n) : lackR S [nmK i] = false := by
  have h1 := h.has i hi
  unfold lackR
  cases hf : findS S (nmK i) with
  | none => rw [hf] at h1; cases h1
  | some e => simp [hf]
theorem StN.mv {S : List Ent} {n i : Nat} (h : StN S n) (hn : n ≤ 10) (hi : i < n) {out : List ByteArray} (ho : ClosR S [nmK i] out) : MvP S (nmK i) out := by
  have hl := h.lack hi
  obtain ⟨c1, c2, c3⟩ := clos_T h.ok (h.acyc hn) hl ho
  have hR := h.ok.ok.ok.closed.rise
  have hF : HP.Final (HP.rchB S [nmK i]) S out := by
    unfold ClosR at ho
    rw [if_neg (by rw [hl]; simp)] at ho
    exact ho
  obtain ⟨f1, f2⟩ := Tof_find hR hF.1
  refine ⟨ho, import_export h.ok hl ho, import_again h.ok hl ho, c1, c2, c3, Tof_ok h.ok hF.1, f2, (OutOk.of h.ok.ok _).len out ho, export_small h.ok.ok _ _ ho, fun p hp => ?_⟩
  obtain ⟨e, he, hs⟩ := (OutOk.of h.ok.ok _).mem out ho p hp
  obtain ⟨hm, _⟩ := findS_some he
  refine ⟨e, he, by rw [f1, if_pos (HP.inL_iff.2 hp), he], hs, ?_, h.ok.ok.ok.closed.refs e hm⟩
  have hw : firstW e.nodes = none := by rw [firstW_ref]; exact (h.ok.ok.ok.tree e hm).1.right
  have := (tree_small hw).1
  omega
theorem nst_new {w1 : World} {q b : Nat} (hN : NSt w1 q b []) : NStF (fun _ => True) w1 q b [] := by
  obtain ⟨hq0, L, hL1, hL2⟩ := hN
  refine ⟨hq0, L, hL1, hL2, fun x hx => ?_⟩
  cases L with
  | nil => cases hx
  | cons y L => exact hL2.elim
end Go.Proofs.YticfcjmlphhpgabGreatDoor
/-
  Moved.
-/
namespace Go.Proofs.YticfcjmlphhpgabGreatDoor
open Go.RowKit Go.Maps

def szV : Value → Nat
  | .string b => b.size
  | _ => 0
theorem extract_split (s : ByteArray) (n : Nat) : s.data.toList = (s.extract 0 n).data.toList ++ (s.extract n s.size).data.toList := by
  rw [Lib.extract_data, Lib.extract_data]
  simp only [List.drop_zero, Nat.sub_zero]
  rw [List.take_of_length_le (l := s.data.toList.drop n) (by simp), List.take_append_drop]
theorem joinB_snoc (ps : List ByteArray) (p : ByteArray) : joinB (ps ++ [p]) = joinB ps ++ p.data.toList := by simp [joinB]
/-- Pieces in memory. -/
structure PcS (B : Nat) (w0 : World) (w : World) (v : Value) (ps : List ByteArray) : Prop where
  own : w.ownsRow B 9 1 v ps.length (ps.map Value.string)
  bel : Below B w0 w
theorem PcS.push {B : Nat} {w0 w w' : World} {v v' : Value} {ps : List ByteArray} (h : PcS B w0 w v ps) (p : ByteArray) (hB : B ≤ w.heap.size) (hown : w'.ownsRow B 9 1 v' (ps.length + 1) (ps.map Value.string ++ [.string p])) (hg : (w.alloc (.cells #[.string p] 9)).grownBy w' v.ownBlock) : PcS B w0 w' v' (ps ++ [p]) := by
  refine ⟨?_, ?_⟩
  · rw [List.map_append, List.length_append]; exact hown
  · exact (h.bel.alloc (by exact hB) _).grown hg (by simp; omega) (fun k hk => (h.own.lt k hk).1)
theorem imp_post {w0 w4 : World} {q b : Nat} {S T : List Ent} {vp : Value} {ps out : List ByteArray} (hb : w0.heap.size ≤ b) (hbq : q ≠ b) (hN : NStF (fun _ => True) w4 q b S) (hT : Lib.Utf8Tabs 0 1 w4) (hp : SliceS w4 vp ps) (hl : ps.length ≤ 1000000) (htot : (joinB ps).length ≤ 50000000) (hS : ∀ e ∈ S, e.refs.length ≤ 1000000000) (hS10 : S.length ≤ 10) (hi : importF S (joinB ps) = ((out, 0, 0), T)) :
    Calls Tryz.prog 11 #[.pointer (some ⟨q, 0, none⟩), vp] w4 fun e w' => ∃ a c, e = .returned (.tuple #[.slice a out.length c, .int .i64 0, .int .i64 0]) ∧ SliceS w' (.slice a out.length c) out ∧ NStF (fun _ => True) w' q b T ∧ Below w0.heap.size w4 w' := by
  have hc := narImport_any (fun _ => True) q b S vp ps w4 hN (fun _ _ => trivial) hT hp hl htot hS hS10
  rw [hi] at hc
  refine hc.mono ?_
  rintro e w' ⟨v, B, hB, rfl, ho, hP, hW⟩
  have h1 := own_strs ho
  obtain ⟨a, c, rfl, h2⟩ := h1
  exact ⟨a, c, rfl, ⟨a, c, rfl, h2⟩, ⟨(hW.1.blk q (lt_of_block hN.1) hbq).trans hN.1, hP.mono fun _ _ => trivial⟩, hW.2 _ hb⟩
theorem one_sliceS (w : World) (r : ByteArray) : SliceS (w.alloc (.cells #[.string r] 9)) (.slice (some ⟨w.heap.size, 0, none⟩) 1 1) [r] := by
  refine ⟨some ⟨w.heap.size, 0, none⟩, 1, rfl, Nat.le_refl _, fun _ => ⟨w.heap.size, 0, rfl, by rw [World.size_alloc]; omega, fun j hj => ?_⟩⟩
  obtain rfl : j = 0 := by simp at hj; omega
  have h := block_new w (.cells #[.string r] 9)
  simp only [World.cell?, h]
  rfl
set_option maxRecDepth 20000 in
set_option maxHeartbeats 4000000 in
theorem Moved_big (s : ByteArray) (c m : Int) (w : World) (hs : s.size ≤ maxLen) (hb : 16384 < s.size) :
    Calls Tryz.prog 3 #[.string s, .int .i64 c, .int .i64 m] w fun e w' => e = .returned (.bool true) ∧ Below w.heap.size w w' := by
  have hs' : s.size ≤ 9223372036854775807 := by unfold maxLen at hs; omega
  go_enter Tryz.func3, Tryz.ntmps3
  go_wp2
  go_ret
  exact ⟨rfl, Below.refl _ _⟩
set_option maxRecDepth 20000 in
set_option maxHeartbeats 8000000 in
theorem Moved_any (s : ByteArray) (c m : Int) (w : World) (hT : Lib.Utf8Tabs 0 1 w) (hs : s.size ≤ 16384) (hc : -9223372036854775808 ≤ c ∧ c ≤ 9223372036854775807) (hm : -9223372036854775808 ≤ m ∧ m ≤ 9223372036854775807) :
    Calls Tryz.prog 3 #[.string s, .int .i64 c, .int .i64 m] w fun e w' => e = .returned (.bool true) ∧ Below w.heap.size w w' := by
  have hT2 := tabs2 hT
  have hab : (ByteArray.mk #[97, 98] ++ s).size ≤ 16386 := by
    have h2 : (ByteArray.mk #[97, 98]).size = 2 := rfl
    rw [ByteArray.size_append]; omega
  have hab2 : 2 ≤ (ByteArray.mk #[97, 98] ++ s).size := by
    have h2 : (ByteArray.mk #[97, 98]).size = 2 := rfl
    rw [ByteArray.size_append]; omega
  have cS := hide (stored_any (ByteArray.mk #[97, 98] ++ s) w hT hab)
  go_enter Tryz.func3, Tryz.ntmps3
  go_wp2_with fail
  refine cS.out.mono ?_
  rintro e w1 ⟨q, b, S, n, v7, v8, rfl, hN, hSt, hn, hpos, hv7, hbw, hb1⟩
  have hn0 := hpos hab2
  obtain ⟨i, hi⟩ : ∃ i, pickN c n = i := ⟨_, rfl⟩
  have hin : i < n := by rw [← hi]; exact pickN_lt c hn0
  have cP := hide (pick_det c n hn0 (by omega) hc w1)
  rw [hi] at cP
  have hrl : ((List.range n).map nmK).length = n := by simp
  have hv : SliceS w1 v7 ((List.range n).map nmK) := own_strs (by rw [hrl]; exact hv7)
  have HV := hide hv
  obtain ⟨a7, c7, rfl, hc7, hv⟩ := hv
  obtain ⟨g7, o7, rfl, _, hv⟩ := hv (by rw [hrl]; omega)
  have hv := hv i (by rw [hrl]; exact hin)
  have e7 : ((List.range n).map nmK)[i]'(by rw [hrl]; exact hin) = nmK i := by simp
  rw [e7] at hv
  rw [hrl] at HV hc7 ⊢
  have hTw := hide (tabsB hT2 hT hb1)
  have hT2w := tabs2 hTw.out
  have HB1 := hide hb1
  have HN := hide hN
  have HSt := hide hSt
  have hinz : (i : Int) < n := by omega
  clear hN hSt hv7 hbw hb1 hpos hab hab2 cS hT hi e7 hrl
  have hrz : (nmK i).size ≤ 1000000000 := by rw [nmK_size]; omega
  generalize hr : nmK i = r at hv hrz
  have cC : Hid (Calls Tryz.prog 8 #[.pointer (some ⟨q, 0, none⟩), .slice (some ⟨w1.heap.size, 0, none⟩) 1 1] (w1.alloc (.cells #[.string r] 9)) fun e w' => ∃ a c out, e = .returned (.tuple #[.slice a out.length c, .int .i64 0]) ∧ SliceS w' (.slice a out.length c) out ∧ MvP S r out ∧ Below w1.heap.size w1 w') := hide (by
    have hA := (Below.refl _ w1).alloc (Nat.le_refl _) (.cells #[.string r] 9)
    refine (narClosure_any q b S _ [r] _ (HN.out.below hA) HSt.out.ok.ok.ok.closed (one_sliceS w1 r) (by simp) (fun x hx => by simp at hx; subst hx; exact hrz)).mono ?_
    rintro e w' ⟨v, out, rfl, h1, h2, h3⟩
    have h4 := own_strs h1
    obtain ⟨a, c, rfl, h5⟩ := h4
    refine ⟨a, c, out, ?_, ⟨a, c, rfl, h5⟩, ?_, hA.trans (h3.mono hA.size)⟩
    · rw [← hr, HSt.out.lack hin]; rfl
    · subst hr; exact HSt.out.mv hn hin h2)
  go_wp2_with fail
  refine cP.out.mono ?_
  rintro e w1 ⟨rfl, rfl⟩
  clear cP
  go_wp2_with fail
  refine cC.out.mono ?_
  rintro e w2 ⟨al, cl, out, rfl, hl, hM, hb2⟩
  have HL := hide hl
  have HM := hide hM
  have HB2 := hide hb2
  obtain ⟨E, hE⟩ : ∃ E, exportB S [r] out = E := ⟨_, rfl⟩
  have hEs : E.size ≤ 500000 := by rw [← hE]; exact hM.size
  have cE : Hid (∀ V, Below w1.heap.size w1 V → Calls Tryz.prog 9 #[.pointer (some ⟨q, 0, none⟩), .slice (some ⟨V.heap.size, 0, none⟩) 1 1] (V.alloc (.cells #[.string r] 9)) fun e w' => e = .returned (.tuple #[.string E, .int .i64 0]) ∧ Below V.heap.size V w') := hide fun V hV => by
    have hA := (Below.refl _ V).alloc (Nat.le_refl _) (.cells #[.string r] 9)
    refine (narExport_any q b S _ [r] _ ((HN.out.below hV).below hA) HSt.out.ok.ok.ok.closed (one_sliceS V r) (by simp) (fun x hx => by simp at hx; subst hx; exact hrz) (OutOk.of HSt.out.ok.ok _)).mono ?_
    rintro e w' ⟨out', h1, rfl, h3⟩
    obtain rfl := h1.uniq HM.out.base
    refine ⟨?_, hA.trans (h3.mono hA.size)⟩
    rw [hE, ← hr, HSt.out.lack hin]; rfl
  clear hl hM hb2 cC
  go_wp2_with fail
  refine (cE.out w2 HB2.out).mono ?_
  rintro e w3 ⟨rfl, hb3⟩
  have HB3 := hide (HB2.out.trans (hb3.mono HB2.out.size))
  have HL := hide (HL.out.below hb3)
  obtain ⟨pk, hpk⟩ : ∃ pk, pickN m 50 = pk := ⟨_, rfl⟩
  have hpk50 : pk < 50 := by rw [← hpk]; exact pickN_lt m (by omega)
  have cK : Hid (∀ V, Calls Tryz.prog 7 #[.int .i64 m, .int .i64 50] V fun e w' => e = .returned (.int .i64 (pk : Nat)) ∧ w' = V) := hide fun V => by
    rw [← hpk]
    exact pick_det m 50 (by omega) (by omega) hm V
  obtain ⟨i9, hi9, h90, h91, h92⟩ := info_parts Tryz.info9
  clear hb3 hpk HB2
  go_wp2
  go_loopw [16, 17, 18] (fun v16 v17 _ wr => ∃ (pcs : List ByteArray) (a : Option Addr) (cp : Nat) (rest : ByteArray), v16 = .slice a pcs.length cp ∧ v17 = .string rest ∧ pcs.length + rest.size ≤ E.size ∧ Hid (PcS w3.heap.size w3 wr (.slice a pcs.length cp) pcs) ∧ Hid (joinB pcs ++ rest.data.toList = E.data.toList)) (fun _ v17 _ _ => szV v17)
  case atStart => exact ⟨[], none, 0, E, rfl, rfl, by simp, hide ⟨World.ownsRow_nil _ _ _ _, Below.refl _ _⟩, hide (by simp [joinB])⟩
  case round =>
    obtain ⟨pcs, a, cp, rest, rfl, rfl, hlen, hP, HJ⟩ := hrel
    have hsz := hP.out.bel.size
    by_cases h0 : rest.size = 0
    · have he : rest.toList.isEmpty = true := by
        have : rest.data.toList = [] := List.eq_nil_of_length_eq_zero (by simpa using h0)
        rw [ByteArray.toList_eq, this]; rfl
      have HJ' : Hid (joinB pcs = E.data.toList) := hide (by
        have h1 := HJ.out
        rwa [show rest.data.toList = [] from List.eq_nil_of_length_eq_zero (by simpa using h0), List.append_nil] at h1)
      clear HJ h0
      go_wp2_with fail
      refine (NewStore_any wr).mono ?_
      rintro e w4 ⟨rfl, hY, hb4⟩
      obtain ⟨wA, rfl⟩ : ∃ x, x = wr := ⟨_, rfl⟩
      have hbr := HB3.out.trans (hP.out.bel.mono HB3.out.size)
      have HTr := hide (tabsB (Nat.le_trans hT2w hbr.size) (tabsB hT2w hTw.out hbr) (Below.refl _ wA))
      have HX := hide (HN.out.below hbr)
      have HLr := hide (HL.out.below hP.out.bel)
      have HCut := hide (own_strs hP.out.own)
      have cI := hide (imp_post (w0 := wA) (T := Tof S out) (out := out) (Nat.le_refl _) (by omega) (nst_new hY) (tabsB (Nat.le_trans hT2w hbr.size) HTr.out hb4) (HCut.out.below hb4) (by omega) (by rw [HJ'.out]; simp; omega) (fun e he => by cases he) (by simp) (by rw [HJ'.out, ← hE]; exact HM.out.imp))
      have HBr := hide hbr
      have HB4 := hide hb4
      clear hY hbr hb4 HL HJ' hP he
      go_wp2_with fail
      refine cI.out.mono ?_
      rintro e w5 ⟨a5, c5, rfl, hA5, hY5, hb5⟩
      have HB5 := hide (HB4.out.trans hb5)
      have HA5 := hide hA5
      have HY5 := hide hY5
      have cQ : Hid (Calls Tryz.prog 12 #[.pointer (some ⟨wA.heap.size + 1, 0, none⟩)] w5 fun e w' => ∃ a c, e = .returned (.slice a out.length c) ∧ Below w5.heap.size w5 w') := hide (by
        refine (narPaths_any _ _ _ w5 ⟨hY5.1, hY5.2.st⟩ HM.out.ok.ok.ok.closed.rise (by rw [HM.out.len]; have := HM.out.ten; omega)).mono ?_
        rintro e w' ⟨v, rfl, h1, h2⟩
        rw [HM.out.len] at h1
        obtain ⟨a, c, rfl, _⟩ := own_slice h1
        exact ⟨a, c, rfl, h2⟩)
      clear hA5 hY5 hb5 cI HB4
      have hoz : ((out.length : Nat) : Int) = out.length := rfl
      go_upto_region 19 with fail
      go_cut [110] from 28 to 110 (fun v wc => v = .bool false ∧ Hid (Below w5.heap.size w5 wc))
      case first =>
        go_wp2_with fail
        refine cQ.out.mono ?_
        rintro e w6 ⟨a6, c6, rfl, hb6⟩
        go_wp2
        go_meet
        exact ⟨rfl, hide hb6⟩
      case rest =>
      obtain ⟨rfl, HC6⟩ := hcut
      generalize wc = w6 at HC6 ⊢
      have HB6 := hide (HB5.out.trans (HC6.out.mono HB5.out.size))
      have HA6 := hide (HA5.out.below HC6.out)
      have HY6 : Hid (NStF (fun _ => True) w6 (wA.heap.size + 1) wA.heap.size (Tof S out)) := hide ⟨(HC6.out.block _ (lt_of_block HY5.out.1)).trans HY5.out.1, HY5.out.2.below HC6.out⟩
      have HL6 := hide (HLr.out.below HB6.out)
      clear HA5 HY5 HB5 HC6 cQ
      have hqy : wA.heap.size + 1 ≠ wA.heap.size := by omega
      generalize wA.heap.size + 1 = qy at HY6 hqy ⊢
      go_wp2
      have cS : Hid (∀ j (hj : j < out.length) V, Below w6.heap.size w6 V → Calls Tryz.prog 13 #[.pointer (some ⟨q, 0, none⟩), .pointer (some ⟨qy, 0, none⟩), .string out[j]] V fun e w' => e = .returned (.bool true) ∧ Below V.heap.size V w') := hide fun j hj V hV => by
        obtain ⟨e, h1, h2, h3, h4, h5⟩ := HM.out.ent out[j] (List.getElem_mem _)
        have hN6 : NSt w6 qy _ (Tof S out) := ⟨HY6.out.1, HY6.out.2.st⟩
        exact sameEntry_any q b qy _ S (Tof S out) out[j] e V ((HX.out.below HB6.out).below hV) (hN6.below hV) HSt.out.ok.ok.ok HM.out.ok.ok.ok (tabsB (tabs2 (tabsB (Nat.le_trans hT2w HBr.out.size) HTr.out HB6.out)) (tabsB (Nat.le_trans hT2w HBr.out.size) HTr.out HB6.out) hV) h3 h1 h2 h4 h5
      have ho10 := HM.out.ten
      go_loopw [22, 113] (fun _ v w7 => ∃ j : Nat, j ≤ out.length ∧ v = .int .i64 j ∧ Hid (Below w6.heap.size w6 w7)) (fun _ v _ => out.length - (intOf v).toNat)
      case atStart => exact ⟨0, by omega, rfl, hide (Below.refl _ _)⟩
      case round =>
        obtain ⟨j, hj, rfl, HBj⟩ := hrel
        by_cases hlt : j < out.length
        · obtain ⟨_, _, q1, _, q3⟩ := HL6.out
          obtain ⟨_, _, q1', _, q3'⟩ := HA6.out
          obtain ⟨g, o, rfl, gl, g5⟩ := q3 (by omega)
          obtain ⟨g', o', rfl, gl', g5'⟩ := q3' (by omega)
          have g5 := (HBj.out.cell (p := ⟨g, o + j, none⟩) gl).trans (g5 j hlt)
          have g5' := (HBj.out.cell (p := ⟨g', o' + j, none⟩) gl').trans (g5' j hlt)
          have cS := hide (cS.out j hlt)
          have hbr : (out[j].toList == out[j].toList) = true := by simp
          generalize out[j] = y at g5 g5' hbr cS
          have hltz : (j : Int) < out.length := by omega
          clear q3 q3' gl gl' HL6 HA6
          go_wp2
          go_cut [134] from 114 to 134 (fun v wc => v = .bool false ∧ Hid (Below w6.heap.size w6 wc))
          case first =>
            clear cE cK HV HN HTr HX HCut HBr HM HSt hi9 h90 h91 h92 hEs hv hrz hc hm hs hn hn0 hin hinz hc7 hpk50 hlen hsz ho10 hoz HY6 HB6 hT2 hT2w hE
            go_region_held3 (fun w' => w'.cell? ⟨g, o + j, none⟩ = some (.string y) ∧ w'.cell? ⟨g', o' + j, none⟩ = some (.string y)) (first | go_keep | exact ⟨cellBG hb8 (by simpa using g5), cellBG hb8 (by simpa using g5')⟩) (first | (go_at_call 13; refine (cS.out _ HBj.out.drew).mono ?_; rintro e w8 ⟨rfl, hb8⟩))
            all_goals
              have HB8 := hide (HBj.out.drew.trans (hb8.mono HBj.out.drew.size))
              go_wp2
              go_meet
              exact ⟨rfl, HB8⟩
          case rest =>
            obtain ⟨rfl, HC⟩ := hcut
            go_wp2
            go_roundw
            case rel => exact ⟨j + 1, by omega, by go_num, HC⟩
            case measure => simp [intOf]; omega
        · have hYr : NStF (fun _ => True) wr qy wA.heap.size (Tof S out) := ⟨(HBj.out.block _ (lt_of_block HY6.out.1)).trans HY6.out.1, HY6.out.2.below HBj.out⟩
          have hTA := tabs2 HTr.out
          have hBA := HB6.out.trans (HBj.out.mono HB6.out.size)
          have hAl := (Below.refl _ wr).alloc (Nat.le_refl _) (.cells #[.string E] 9)
          have hYa : NStF (fun _ => True) (wr.alloc (.cells #[.string E] 9)) qy wA.heap.size (Tof S out) := ⟨block_keep _ hYr.1, hYr.2.below hAl⟩
          have cI := hide (imp_post (w0 := wA) (T := Tof S out) (out := []) (Nat.le_refl _) hqy hYa (tabsB hTA HTr.out (hBA.trans (hAl.mono hBA.size))) (one_sliceS wr E) (by simp) (by simp [joinB]; omega) (fun e he => by have := HM.out.ok.ok.few e he; omega) (by rw [HM.out.len]; exact HM.out.ten) (by rw [show joinB [E] = E.data.toList by simp [joinB], ← hE]; exact HM.out.again))
          have HBA := hide (hBA.trans (hAl.mono hBA.size))
          have cY : Hid (∀ V, NSt V qy wA.heap.size (Tof S out) → Calls Tryz.prog 9 #[.pointer (some ⟨qy, 0, none⟩), .slice (some ⟨V.heap.size, 0, none⟩) 1 1] (V.alloc (.cells #[.string r] 9)) fun e w' => e = .returned (.tuple #[.string E, .int .i64 0]) ∧ Below V.heap.size V w') := hide fun V hV => by
            have hA := (Below.refl _ V).alloc (Nat.le_refl _) (.cells #[.string r] 9)
            refine (narExport_any qy _ (Tof S out) _ [r] _ (hV.below hA) HM.out.ok.ok.ok.closed (one_sliceS V r) (by simp) (fun x hx => by simp at hx; subst hx; exact hrz) (OutOk.of HM.out.ok.ok _)).mono ?_
            rintro e w' ⟨out', h1, rfl, h3⟩
            obtain rfl := h1.uniq HM.out.clos
            refine ⟨?_, hA.trans (h3.mono hA.size)⟩
            rw [HM.out.same, hE, HM.out.lack]; rfl
          have cQ : Hid (∀ V, Below w1.heap.size w1 V → Calls Tryz.prog 12 #[.pointer (some ⟨q, 0, none⟩)] V fun e w' => ∃ a c, e = .returned (.slice a n c) ∧ Below V.heap.size V w') := hide fun V hV => by
            refine (narPaths_any _ _ _ V (HN.out.below hV) HSt.out.ok.ok.ok.closed.rise (by rw [HSt.out.len]; omega)).mono ?_
            rintro e w' ⟨v, rfl, h1, h2⟩
            rw [HSt.out.len] at h1
            obtain ⟨a, c, rfl, _⟩ := own_slice h1
            exact ⟨a, c, rfl, h2⟩
          have hEb : (E.toList == E.toList) = true := by simp
          clear hYr hBA hAl hYa cS
          go_wp2_with fail
          refine cI.out.mono ?_
          rintro e w8 ⟨a8, c8, rfl, _, hY8, hb8⟩
          have HB8 := hide (HBr.out.trans ((HBA.out.trans hb8).mono HBr.out.size))
          have HY8 : Hid (NSt w8 qy wA.heap.size (Tof S out)) := hide ⟨hY8.1, hY8.2.st⟩
          clear hY8 hb8 cI HBA
          simp only [List.length_nil]
          go_wp2_with fail
          refine (cY.out w8 HY8.out).mono ?_
          rintro e w9 ⟨rfl, hb9⟩
          have HB9 := hide (HB8.out.trans (hb9.mono HB8.out.size))
          clear hb9 HB8
          go_wp2_with fail
          refine (cE.out w9 HB9.out).mono ?_
          rintro e w10 ⟨rfl, hb10⟩
          have HB10 := hide (HB9.out.trans (hb10.mono HB9.out.size))
          clear hb10 HB9
          go_wp2_with fail
          refine (cQ.out w10 HB10.out).mono ?_
          rintro e w11 ⟨a11, c11, rfl, hb11⟩
          have HB11 := hide (HB1.out.trans ((HB10.out.trans (hb11.mono HB10.out.size)).mono HB1.out.size))
          clear hb11 HB10
          go_wp2
          go_ret
          exact ⟨rfl, HB11.out⟩
    · have he : rest.toList.isEmpty = false := by
        rw [ByteArray.toList_eq]
        cases hh : rest.data.toList with
        | nil => exact absurd (by have := congrArg List.length hh; simpa using this) h0
        | cons a t => rfl
      by_cases hk : 1 + pk < rest.size
      · obtain ⟨k, hkk⟩ : ∃ k, 1 + pk = k := ⟨_, rfl⟩
        have hmin : min (rest.size : Int) (1 + (pk : Int)) = k := by omega
        rw [hkk] at hk
        have hx2 : (rest.extract k rest.size).size = rest.size - k := by rw [ByteArray.size_extract]; omega
        have HJ' : Hid (joinB (pcs ++ [rest.extract 0 k]) ++ (rest.extract k rest.size).data.toList = E.data.toList) := by
          show _ = _
          rw [joinB_snoc, List.append_assoc, ← extract_split]
          exact HJ.out
        have hkz : (k : Int) ≤ rest.size := by omega
        clear HJ
        go_wp2_with fail
        refine (cK.out _).mono ?_
        rintro e w4 ⟨rfl, rfl⟩
        go_wp2_with (at_builtin; (refine wpList_append_own _ rfl (.tmp 77) (.tmp 81) 23 rfl w3.heap.size 9 i9 (.string ⟨#[]⟩) 1 16 Tryz.underlying23 hi9 h90 h91 h92 rfl (by decide) _ _ _ rfl (hP.out.own.alloc _) ⟨w4.heap.size, 0, none⟩ 1 1 [.string (rest.extract 0 k)] rfl rfl (cell_one_at _ _ _ _ rfl) (fun x hx => by simp at hx; subst hx; rfl) (by unfold maxLen; first | omega | (simp; omega)) (by first | omega | (simp; omega)) (by simp; omega) ?_; intro v4 w5 hown4 hgrow4 hnil4; have hP4 := hP.out.push (rest.extract 0 k) (by omega) hown4 hgrow4; obtain ⟨g4, cap4, rfl, hcap4⟩ := own_form hown4 (by first | omega | simp); have HP4 := hide hP4; clear hown4 hgrow4 hnil4 hP4))
        go_roundw
        case rel => exact ⟨pcs ++ [rest.extract 0 k], some ⟨g4, 0, none⟩, cap4, rest.extract k rest.size, by simp, rfl, by rw [hx2]; simp; omega, by simpa using HP4, HJ'⟩
        case measure => simp only [szV]; omega
      · have hmin : min (rest.size : Int) (1 + (pk : Int)) = rest.size := by omega
        have HJ' : Hid (joinB (pcs ++ [rest]) = E.data.toList) := by
          show _ = _
          rw [joinB_snoc]; exact HJ.out
        clear HJ
        go_wp2_with fail
        refine (cK.out _).mono ?_
        rintro e w4 ⟨rfl, rfl⟩
        go_wp2_with (at_builtin; (refine wpList_append_own _ rfl (.tmp 77) (.tmp 81) 23 rfl w3.heap.size 9 i9 (.string ⟨#[]⟩) 1 16 Tryz.underlying23 hi9 h90 h91 h92 rfl (by decide) _ _ _ rfl (hP.out.own.alloc _) ⟨w4.heap.size, 0, none⟩ 1 1 [.string rest] rfl rfl (cell_one_at _ _ _ _ rfl) (fun x hx => by simp at hx; subst hx; rfl) (by unfold maxLen; first | omega | (simp; omega)) (by first | omega | (simp; omega)) (by simp; omega) ?_; intro v4 w5 hown4 hgrow4 hnil4; have hP4 := hP.out.push rest (by omega) hown4 hgrow4; obtain ⟨g4, cap4, rfl, hcap4⟩ := own_form hown4 (by first | omega | simp); have HP4 := hide hP4; clear hown4 hgrow4 hnil4 hP4))
        go_roundw
        case rel => exact ⟨pcs ++ [rest], some ⟨g4, 0, none⟩, cap4, ByteArray.empty, by simp, rfl, by simp; omega, by simpa using HP4, hide (by rw [HJ'.out]; simp)⟩
        case measure => simp [szV]; omega
end Go.Proofs.YticfcjmlphhpgabGreatDoor
