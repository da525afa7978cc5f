import Derived.Test.YticfcjmlphhpgabGreatDoorB19
import Derived.Test.YticfcjmlphhpgabGreatDoorB21
import Derived.Deep.RegionHeld3
namespace Go.Proofs.YticfcjmlphhpgabGreatDoor
open Go.RowKit Go.Maps
theorem own_new {w : World} {base size n : Nat} {e : TypeId} {v : Value} {xs : List Value} (h : w.ownsRow base e size v n xs) : ∀ x n' c', v = .slice (some x) n' c' → base ≤ x.block := by
  intro x n' c' hv
  rcases h.2 with ⟨rfl, _⟩ | ⟨g, cap, _, hv', hg, _⟩
  · cases hv
  · rw [hv'] at hv
    injection hv with h1 _ _
    injection h1 with h1
    subst h1
    exact hg
theorem row3 {w : World} {g : Nat} {t : TypeId} {o0 o1 o2 v0 v1 v2 : Value} (h : w.heap[g]? = some (.cells #[o0, o1, o2] t (0, 0))) : (((w.setCell ⟨g, 0, none⟩ v0).setCell ⟨g, 1, none⟩ v1).setCell ⟨g, 2, none⟩ v2).heap[g]? = some (.cells #[v0, v1, v2] t (0, 0)) := by
  have h1 := Go.heap_setCell_same w g 0 _ t v0 h
  have h2 := Go.heap_setCell_same _ g 1 _ t v1 h1
  have h3 := Go.heap_setCell_same _ g 2 _ t v2 h2
  exact h3
theorem drewT {B : Nat} {a w : World} (h : Below B a w) : Below B a w.drew := ⟨h.os, h.tape, h.output, h.size, h.block⟩
theorem undrew {w w' : World} (h : Below w.drew.heap.size w.drew w') : Below w.heap.size w w' := ⟨h.os, h.tape, h.output, h.size, h.block⟩
end Go.Proofs.YticfcjmlphhpgabGreatDoor
namespace Go.Proofs.YticfcjmlphhpgabGreatDoor
open Go.RowKit

set_option maxRecDepth 20000 in
set_option maxHeartbeats 2000000 in
theorem treeClose_own {B R : Nat} {w : World} {rd : Rd} {tot : Nat} (h : RdAt B R w rd) (hI : RInv rd tot) (ht : tot ≤ 50000000) :
    Calls Tryz.prog 76 #[.pointer (some ⟨R, 0, none⟩)] w fun e w' => (∃ v, e = .returned (.tuple #[v, .int .i64 (closeF rd).2.1, .int .i64 ((closeF rd).2.2 : Nat)]) ∧ w'.ownsRow B 43 3 v (closeF rd).1.length (flat3 (closeF rd).1)) ∧ Below w.heap.size w w' := by
  have cE := hide (End_any h hI ht)
  have nilN : ∀ w : World, w.ownsRow B 43 3 (.slice none 0 0) 0 (flat3 []) := fun w => World.ownsRow_nil _ _ _ _
  cases rd with
  | bad er p =>
    have hne := h.2
    simp only [closeF] at cE ⊢
    clear h
    go_enter Tryz.func76, Tryz.ntmps76
    go_wp2_with fail
    refine cE.out.mono ?_
    rintro e w1 ⟨rfl, q, rfl⟩
    go_wp2
    go_ret3
    exact ⟨⟨_, rfl, nilN _⟩, drewNB w q⟩
  | ok st =>
    simp only [closeF] at cE ⊢
    by_cases hl : st.list = []
    · rw [if_pos hl] at cE
      rw [if_pos hl]
      obtain ⟨left, ⟨lst, nds, drs, hM⟩, hO⟩ := h
      have c5 : ∀ q, (w.drewN q).cell? ⟨R, 5, none⟩ = some nds := fun q => by simp [World.cell?, hM.blk]
      have hS : ∀ q, (w.drewN q).ownsRow B 43 3 nds st.gr.nodes.length (flat3 st.gr.nodes) := fun q => own_drewN hM.nd q
      have HS := hide hS
      clear hM hO hS
      go_enter Tryz.func76, Tryz.ntmps76
      go_wp2_with fail
      refine cE.out.mono ?_
      rintro e w1 ⟨rfl, q, rfl⟩
      have c5' := c5 q
      have hb := drewNB w q
      have hs := HS.out q
      generalize w.drewN q = w1 at c5' hb hs
      clear c5 HS cE
      go_wp2
      go_ret3
      exact ⟨⟨_, rfl, hs⟩, hb⟩
    · rw [if_neg hl] at cE
      rw [if_neg hl]
      clear h
      go_enter Tryz.func76, Tryz.ntmps76
      go_wp2_with fail
      refine cE.out.mono ?_
      rintro e w1 ⟨rfl, q, rfl⟩
      go_wp2
      go_ret3
      exact ⟨⟨_, rfl, nilN _⟩, drewNB w q⟩
set_option maxRecDepth 20000 in
set_option maxHeartbeats 2000000 in
theorem Unpack_own (s : ByteArray) (w : World) (hT : Lib.Utf8Tabs 0 1 w) (hs : s.size ≤ 50000000) :
    Calls Tryz.prog 53 #[.string s] w fun e w' => ∃ v, e = .returned v ∧ w'.ownsRow w.heap.size 43 3 v (readF s.data.toList).1.length (flat3 (readF s.data.toList).1) ∧ Below w.heap.size w w' := by
  have hB2 := tabs2 hT
  have hsl : s.data.toList.length = s.size := by simp
  have hI0 : RInv rd0 0 := Inv.init
  have hI := feedF_inv hI0 s.data.toList
  rw [Nat.zero_add, hsl] at hI
  have cN := hide (treeNew_any w)
  have HT := hide hT
  obtain ⟨RR, hRR⟩ : ∃ RR, readF s.data.toList = RR := ⟨_, rfl⟩
  rw [hRR]
  have HRR : Hid (closeF (feedF rd0 s.data.toList) = RR) := hRR
  clear hT hRR hsl
  go_enter Tryz.func53, Tryz.ntmps53
  go_wp2_with fail
  refine cN.out.mono ?_
  rintro e w1 ⟨rfl, h1, hb1⟩
  have HB1 := hide hb1
  have cF := hide (treeFeed_any h1 hI0 s (by omega) (tabsB hB2 HT.out hb1) hB2)
  clear cN h1 hb1
  go_wp2_with fail
  refine cF.out.mono ?_
  rintro e w2 ⟨⟨r, rfl⟩, h2, hb2⟩
  have HB2 := hide (HB1.out.trans hb2)
  have cC := hide (treeClose_own h2 hI (by omega))
  rw [HRR.out] at cC
  clear cF h2 hb2
  go_wp2_with fail
  refine cC.out.mono ?_
  rintro e w3 ⟨⟨v, rfl, hv⟩, hb3⟩
  have HB3 := hide (HB2.out.trans (hb3.mono HB2.out.size))
  clear cC hb3
  go_wp2
  go_ret
  exact ⟨_, rfl, hv, HB3.out⟩
set_option maxRecDepth 20000 in
set_option maxHeartbeats 8000000 in
theorem Get_own (b : Nat) (S : List Ent) (p : ByteArray) (w : World) (h : PSt w b S) (E : Ent) (hf : findS S p = some E) (hs : p.size ≤ 1000000000)
    (hT : Lib.Utf8Tabs 0 1 w) (hpk : (packB E.nodes).size ≤ 50000000) (hw : firstW E.nodes = none) (hl : E.refs.length ≤ 1000000) (hsr : ∀ x ∈ E.refs, x.size ≤ 1000000000) :
    Calls Tryz.prog 28 #[.map (some b), .string p] w fun e w' => ∃ vt vr, e = .returned (.tuple #[.agg #[vt, vr, .string ⟨(le (Sm.fnv (packB E.nodes).data.toList) 8).toArray⟩], .int .i64 0]) ∧ w'.ownsRow w.heap.size 43 3 vt E.nodes.length (flat3 E.nodes) ∧ w'.ownsRow w.heap.size 9 1 vr E.refs.length (E.refs.map Value.string) ∧ Below w.heap.size w w' := by
  have hkey : keyOf Tryz.prog 9 (.string p) = some (.string p.data.toList) := WideMaps.keyOf_string_mk Tryz.underlying9 (by unfold maxLen; omega)
  obtain ⟨L, h1, h2⟩ := h
  have hfK := h2.find p
  rw [hf] at hfK
  simp only at hfK
  obtain ⟨ra, rn, rc, hfK, hR⟩ := hfK
  have h3 : MapAt (w.alloc (.cells #[.slice none 0 0, .slice none 0 0, .string ⟨#[]⟩] 46)) b L := World.ownsMap.alloc h1 _
  have HR := hide hR
  have HT := hide hT
  have HW := hide hw
  have HSR := hide hsr
  clear h2 h1 hf hR hT hw hsr
  generalize hB : packB E.nodes = B at *
  go_enter Tryz.func28, Tryz.ntmps28
  go_wp2_with (first
    | (at_lookup; refine wpList_lookup_own_ok _ rfl _ _ 60 rfl 9 74 keyed9 Tryz.underlying60 rawR (zero103 _) (.held noE) [] rfl b _ _ rfl h3 _ _ rfl hkey ?_; intro v ps hv; rw [atKey_mapD, hfK] at hv; rw [has_mapD, hfK]; obtain rfl := rawR_inv hv; clear hv; simp only [Option.isSome])
    | fail)
  have HB0 := hide (((Below.refl w.heap.size w).alloc (Nat.le_refl _) (.cells #[.slice none 0 0, .slice none 0 0, .string ⟨#[]⟩] 46)).alloc (by simp) (.cells #[.string B, .slice ra rn rc] 74))
  have K0 : Hid (((w.alloc (.cells #[.slice none 0 0, .slice none 0 0, .string ⟨#[]⟩] 46)).alloc (.cells #[.string B, .slice ra rn rc] 74)).heap[w.heap.size]? = some (.cells #[.slice none 0 0, .slice none 0 0, .string ⟨#[]⟩] 46 (0, 0))) := hide ((Below.heap_alloc _ _ _ (by simp)).trans (block_new w _))
  have K1 : Hid (((w.alloc (.cells #[.slice none 0 0, .slice none 0 0, .string ⟨#[]⟩] 46)).alloc (.cells #[.string B, .slice ra rn rc] 74)).heap[w.heap.size + 1]? = some (.cells #[.string B, .slice ra rn rc] 74 (0, 0))) := hide (by have := block_new (w.alloc (.cells #[.slice none 0 0, .slice none 0 0, .string ⟨#[]⟩] 46)) (.cells #[.string B, .slice ra rn rc] 74); simpa using this)
  clear h3 hfK hkey
  generalize (w.alloc (.cells #[.slice none 0 0, .slice none 0 0, .string ⟨#[]⟩] 46)).alloc (.cells #[.string B, .slice ra rn rc] 74) = W0 at *
  have c00 : W0.cell? ⟨w.heap.size + 1, 0, none⟩ = some (.string B) := by simp [World.cell?, K1.out]
  have c01 : W0.cell? ⟨w.heap.size + 1, 1, none⟩ = some (.slice ra rn rc) := by simp [World.cell?, K1.out]
  have hlt1 : w.heap.size + 1 < W0.heap.size := lt_of_block K1.out
  have cU : Hid (∀ V : World, Below W0.heap.size W0 V → Calls Tryz.prog 53 #[.string B] V fun e w' => ∃ a c, e = .returned (.slice a E.nodes.length c) ∧ w'.ownsRow V.heap.size 43 3 (.slice a E.nodes.length c) E.nodes.length (flat3 E.nodes) ∧ Below V.heap.size V w') := hide fun V hV => by
    refine (Unpack_own B V (tabsB (tabs2 HT.out) HT.out (HB0.out.trans (hV.mono HB0.out.size))) hpk).mono ?_
    rintro e w' ⟨v, rfl, hv, hb⟩
    rw [← hB, read_tree _ HW.out] at hv
    obtain ⟨a, c, rfl, hr⟩ := own_sl hv
    exact ⟨a, c, rfl, hv, hb⟩
  have cC : Hid (∀ V : World, Below W0.heap.size W0 V → Calls Tryz.prog 52 #[.slice ra rn rc] V fun e w' => ∃ a c, e = .returned (.slice a E.refs.length c) ∧ w'.ownsRow V.heap.size 9 1 (.slice a E.refs.length c) E.refs.length (E.refs.map Value.string) ∧ Below V.heap.size V w') := hide fun V hV => by
    refine (copied_any _ E.refs V (HR.out.below (HB0.out.trans (hV.mono HB0.out.size))) hl HSR.out).mono ?_
    rintro e w' ⟨v, rfl, hv, hb⟩
    obtain ⟨a, c, rfl, hr⟩ := own_sl hv
    exact ⟨a, c, rfl, hv, hb⟩
  have cS : Hid (∀ V : World, Calls Tryz.prog 29 #[.string B] V fun e w' => e = .returned (.string ⟨(le (Sm.fnv B.data.toList) 8).toArray⟩) ∧ Below V.heap.size V w') := hide fun V => Sm.wireSum_any B V (by unfold maxLen; omega)
  have HW0 : Hid (Below W0.heap.size W0 W0.drew) := hide (drewT (Below.refl _ _))
  go_region_held3 (fun w' => w'.cell? ⟨w.heap.size + 1, 0, none⟩ = some (.string B) ∧ w'.cell? ⟨w.heap.size + 1, 1, none⟩ = some (.slice ra rn rc)) (go_keep) (first
    | (go_at_call 53; refine (cU.out _ HW0.out).mono ?_; rintro e w1 ⟨a1, n1, rfl, hN1, hb1⟩; have HW1 := hide (HW0.out.trans (hb1.mono HW0.out.size)); have HN1 := hide (own_base hN1 (Nat.le_trans HB0.out.size HW0.out.size)); have c10 := (HW1.out.cell (p := ⟨w.heap.size + 1, 0, none⟩) hlt1).trans c00; have c11 := (HW1.out.cell (p := ⟨w.heap.size + 1, 1, none⟩) hlt1).trans c01; clear hN1 hb1)
    | (go_at_call 52; refine (cC.out _ (by first | exact HW1.out | exact drewT HW1.out)).mono ?_; rintro e w2 ⟨a2, n2, rfl, hS2, hb2⟩; have HW12 : Hid (Below w1.heap.size w1 w2) := hide (by first | exact undrew hb2 | exact hb2); have HW2 := hide (HW1.out.trans (HW12.out.mono HW1.out.size)); have HS2 := hide (own_base hS2 (Nat.le_trans HB0.out.size HW1.out.size)); have c20 := (HW2.out.cell (p := ⟨w.heap.size + 1, 0, none⟩) hlt1).trans c00; have c21 := (HW2.out.cell (p := ⟨w.heap.size + 1, 1, none⟩) hlt1).trans c01; clear hS2 hb2)
    | (go_at_call 29; refine (cS.out _).mono ?_; rintro e w3 ⟨rfl, hb3⟩; have HW23 : Hid (Below w2.heap.size w2 w3) := hide (by first | exact undrew hb3 | exact hb3); have HW3 := hide (HW2.out.trans (HW23.out.mono HW2.out.size)); have c30 := (HW3.out.cell (p := ⟨w.heap.size + 1, 0, none⟩) hlt1).trans c00; have c31 := (HW3.out.cell (p := ⟨w.heap.size + 1, 1, none⟩) hlt1).trans c01; have k3 := (HW3.out.block w.heap.size (Nat.lt_of_succ_lt hlt1)).trans K0.out; have k30 : w3.cell? ⟨w.heap.size, 0, none⟩ = some (.slice none 0 0) := (by simp [World.cell?, k3]); have k31 : w3.cell? ⟨w.heap.size, 1, none⟩ = some (.slice none 0 0) := (by simp [World.cell?, k3]); have k32 : w3.cell? ⟨w.heap.size, 2, none⟩ = some (.string ⟨#[]⟩) := (by simp [World.cell?, k3]); have f30 : w3.frozen? ⟨w.heap.size, 0, none⟩ = false := (by simp [World.frozen?, k3]); have f31 : w3.frozen? ⟨w.heap.size, 1, none⟩ = false := (by simp [World.frozen?, k3]); have f32 : w3.frozen? ⟨w.heap.size, 2, none⟩ = false := (by simp [World.frozen?, k3]); clear hb3))
  have K4 := row3 (v0 := .slice a1 E.nodes.length n1) (v1 := .slice a2 E.refs.length n2) (v2 := .string ⟨(le (Sm.fnv B.data.toList) 8).toArray⟩) k3
  have HB4 : Hid (Below w.heap.size w (((w3.setCell ⟨w.heap.size, 0, none⟩ (.slice a1 E.nodes.length n1)).setCell ⟨w.heap.size, 1, none⟩ (.slice a2 E.refs.length n2)).setCell ⟨w.heap.size, 2, none⟩ (.string ⟨(le (Sm.fnv B.data.toList) 8).toArray⟩))) := hide (Below.setCell (Below.setCell (Below.setCell (HB0.out.trans (HW3.out.mono HB0.out.size)) (Nat.le_refl _) _) (Nat.le_refl _) _) (Nat.le_refl _) _)
  have HKT : Hid (∀ t : TypeId, t ≠ 46 → KeepT t w3 (((w3.setCell ⟨w.heap.size, 0, none⟩ (.slice a1 E.nodes.length n1)).setCell ⟨w.heap.size, 1, none⟩ (.slice a2 E.refs.length n2)).setCell ⟨w.heap.size, 2, none⟩ (.string ⟨(le (Sm.fnv B.data.toList) 8).toArray⟩))) := hide fun t ht => ((set_keepT k3 ht).trans (set_keepT (set_blk k3 0 _) ht)).trans (set_keepT (set_blk (set_blk k3 0 _) 1 _) ht)
  generalize ((w3.setCell ⟨w.heap.size, 0, none⟩ (.slice a1 E.nodes.length n1)).setCell ⟨w.heap.size, 1, none⟩ (.slice a2 E.refs.length n2)).setCell ⟨w.heap.size, 2, none⟩ (.string ⟨(le (Sm.fnv B.data.toList) 8).toArray⟩) = W4 at *
  go_wp2
  refine bodyPost_ret (results_cell_two rfl _ _ w.heap.size 46 _ (0, 0) _ rfl K4 Tryz.underlying46 rfl (by kernel_rfl)) rfl ?_
  refine ⟨_, _, rfl, own_keepT (own_below HN1.out (HW12.out.trans (HW23.out.mono HW12.out.size))) (HKT.out _ (by decide)), own_keepT (own_below HS2.out HW23.out) (HKT.out _ (by decide)), HB4.out⟩
end Go.Proofs.YticfcjmlphhpgabGreatDoor
