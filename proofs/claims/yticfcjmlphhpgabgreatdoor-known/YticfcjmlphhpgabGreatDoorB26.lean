import Derived.Test.YticfcjmlphhpgabGreatDoorB24
namespace Go.Proofs.YticfcjmlphhpgabGreatDoor
open Go.RowKit

set_option maxRecDepth 20000 in
set_option maxHeartbeats 1000000 in
theorem Index_any (v : Value) (l : List ByteArray) (x : ByteArray) (w : World) (h : SliceS w v l) (hl : l.length ≤ 1000000000) :
    Calls Tryz.prog 101 #[v, .string x] w fun e w' => (∃ z : Int, e = .returned (.int .i64 z) ∧ decide ((0 : Int) ≤ z) = inL l x) ∧ w' = w := by
  obtain ⟨a, cap, rfl, _, hx⟩ := h
  by_cases h0 : l.length = 0
  · rw [inL_no (fun k hk => by omega), h0]
    go_enter Tryz.func101, Tryz.ntmps101
    go_wp2
    refine wp_loop_rounds 1 ?_
    rw [rounds_succ]
    go_wp2
    go_ret
    exact ⟨⟨-1, rfl, rfl⟩, rfl⟩
  · obtain ⟨b, off, rfl, _, hX⟩ := hx (by omega)
    have HX := hide hX
    obtain ⟨T, hT⟩ : ∃ T, inL l x = T := ⟨_, rfl⟩
    rw [hT]
    have HT := hide hT
    clear hX hT hx
    go_enter Tryz.func101, Tryz.ntmps101
    go_wp2
    go_loop [5, 8] (fun _ i => ∃ j : Nat, j ≤ l.length ∧ i = .int .i64 j ∧ Hid (∀ k (hk : k < l.length), k < j → ¬ x = l[k])) (fun _ i => l.length - (intOf i).toNat)
    case atStart => exact ⟨0, by omega, rfl, fun k _ hk => by omega⟩
    case round =>
      obtain ⟨j, hj, rfl, hall⟩ := hrel
      by_cases hlt : j < l.length
      · have c0 := HX.out j hlt
        have hltz : (j : Int) < l.length := by omega
        by_cases e : x = l[j]
        · have hTt : T = true := by rw [← HT.out]; exact inL_yes j hlt e
          subst hTt
          rw [← e] at c0
          have hb : (x.toList == x.toList) = true := by simp
          clear e hall HT
          go_wp2
          go_ret
          exact ⟨⟨_, rfl, by simp⟩, rfl⟩
        · have hall' : Hid (∀ k (hk : k < l.length), k < j + 1 → ¬ x = l[k]) := fun k hk hkj => by
            by_cases e' : k = j
            · subst e'; exact e
            · exact hall.out k hk (by omega)
          have hb := eqB_false e
          generalize l[j] = z at c0 hb
          clear e hall
          go_wp2
          go_round
          case rel => exact ⟨j + 1, by omega, by go_num, hall'⟩
          case measure => simp [intOf]; omega
      · obtain rfl : j = l.length := by omega
        have hTf : T = false := by rw [← HT.out]; exact inL_no (fun k hk => hall.out k hk hk)
        subst hTf
        have hltz : ¬ (l.length : Int) < l.length := by omega
        clear hall HT
        go_wp2
        go_ret
        exact ⟨⟨-1, rfl, by decide⟩, rfl⟩
set_option maxRecDepth 20000 in
set_option maxHeartbeats 400000 in
theorem Contains_any (v : Value) (l : List ByteArray) (x : ByteArray) (w : World) (h : SliceS w v l) (hl : l.length ≤ 1000000000) :
    Calls Tryz.prog 86 #[v, .string x] w fun e w' => e = .returned (.bool (inL l x)) ∧ w' = w := by
  have cI := hide (Index_any v l x w h hl)
  clear h
  go_enter Tryz.func86, Tryz.ntmps86
  go_wp2_with fail
  refine cI.out.mono ?_
  rintro e w1 ⟨⟨z, rfl, hz⟩, rfl⟩
  go_wp2
  go_ret
  exact ⟨by rw [← hz]; rfl, rfl⟩
section
variable {F : Nat → Prop} {B0 B R b : Nat} {w : World} {left lst nds drs cv rv av : Value} {pos : Nat} {st : IS} {h0 : ([] : List IV).length ≤ 1000}
set_option maxRecDepth 20000 in
set_option maxHeartbeats 4000000 in
theorem takePath_any (hB0 : B0 ≤ B) (h : RM (XI b cv rv av [] h0) B R w left lst nds drs pos [] st.g) (hi : IR F B b w cv rv av (live st.ph) st.all st.came st.added st.refs) (hph : st.ph = .path) (s : ByteArray) (hs : s.size ≤ 100) (hcl : st.came.length ≤ 100000000) :
    Calls Tryz.prog 67 #[.pointer (some ⟨R, 0, none⟩), .string s] w (TIPost F B0 B R b w left pos (takeI st s)) := by
  obtain ⟨left0, pos0, ph, all, came, added, refs, g⟩ := st
  simp only at hph h hi hcl
  subst hph
  have hi' : IR F B b w cv rv av false all came added refs := hi
  have hmf : ∀ (fn : Fn) (first cap : Array Value) (w : World), (Instr.makeFunc fn first cap).run Tryz.prog w = .ok (.func fn first cap) w := fun _ _ _ _ => rfl
  have hBw : B ≤ w.heap.size := by have := h.lt; have := h.BR; omega
  have cP := hide (isPath_any s w (by omega))
  simp only [takeI]
  by_cases h1 : isPathB s.data.toList = false
  · rw [if_pos h1]
    rw [h1] at cP
    have hR := hide h.rblk
    clear h hi hi' h1
    go_enter Tryz.func67, Tryz.ntmps67
    go_wp2_with fail
    refine cP.out.mono ?_
    rintro e w1 ⟨rfl, rfl⟩
    go_wp2
    go_ret
    exact ⟨rfl, hR.out, Below.refl _ _⟩
  · rw [if_neg h1]
    have h1' : isPathB s.data.toList = true := by simpa using h1
    rw [h1'] at cP
    obtain ⟨⟨_, c9, c10, _⟩, fz⟩ := h.more
    have hcs : SliceS w cv came := own_strs hi'.ca
    have cC := hide (Contains_any cv came s w hcs (by omega))
    obtain ⟨ca, cc, hcv, _⟩ := own_sl hi'.ca
    by_cases h2 : inL came s = true
    · rw [if_pos h2]
      rw [h2] at cC
      have hR := hide h.rblk
      subst hcv
      clear h hi hi' h1 h2 hcs
      go_enter Tryz.func67, Tryz.ntmps67
      go_wp2_with fail
      refine cP.out.mono ?_
      rintro e w1 ⟨rfl, rfl⟩
      go_wp2_with fail
      refine cC.out.mono ?_
      rintro e w1 ⟨rfl, rfl⟩
      go_wp2
      go_ret
      exact ⟨rfl, hR.out, Below.refl _ _⟩
    · rw [if_neg h2]
      have h2' : inL came s = false := by simpa using h2
      rw [h2'] at cC
      obtain ⟨i9, hi9, h90, h91, h92⟩ := info_parts Tryz.info9
      have H := hide h
      have HI := hide hi'
      have hlt := h.lt
      have hBR := h.BR
      have hRrow : some R ≠ cv.ownBlock := fun e => by
        obtain ⟨c, f, hc⟩ := own_kind hi'.ca R e.symm
        rw [h.blk] at hc
        injection hc with hc
        injection hc with _ hc _
        exact absurd (show (88 : TypeId) = 9 from hc) (by decide)
      subst hcv
      clear h hi hi' h1 h2 hcs
      go_enter Tryz.func67, Tryz.ntmps67
      go_wp2_with fail
      refine cP.out.mono ?_
      rintro e w1 ⟨rfl, hw⟩
      have hw := hw.symm
      subst hw
      go_wp2_with fail
      refine cC.out.mono ?_
      rintro e w1 ⟨rfl, hw⟩
      have hw := hw.symm
      subst hw
      clear cP cC
      go_wp2_with (at_builtin; refine wpList_append_own_at _ rfl (.tmp 18) (.tmp 20) 23 rfl B 9 i9 (.string ⟨#[]⟩) 1 16 Tryz.underlying23 hi9 h90 h91 h92 rfl (by decide) _ _ _ rfl (HI.out.ca.alloc _) ⟨w.heap.size, 0, none⟩ 1 1 [.string s] rfl rfl (cell_one_at _ _ _ _ rfl) (fun x hx => by simp at hx; subst hx; rfl) (by unfold maxLen; omega) (by omega) (by simp; omega) ?_; intro v3 w3 hown3 hgrow3 hnil3 hat3; obtain ⟨a3, c3, rfl, _⟩ := own_sl hown3; have hR3 := (hgrow3.block R (by simp; omega) hRrow).trans (block_keep _ H.out.blk); have c93 : w3.cell? ⟨R, 9, none⟩ = some (.slice ca came.length cc) := (by simp [World.cell?, hR3, XI]); have f93 : w3.frozen? ⟨R, 9, none⟩ = false := (by simp [World.frozen?, hR3]); have c103 : (w3.setCell ⟨R, 9, none⟩ (.slice a3 (came.length + 1) c3)).cell? ⟨R, 10, none⟩ = some rv := (by simp [World.cell?, block_set hR3 9 (.slice a3 (came.length + 1) c3), XI]); have f103 : (w3.setCell ⟨R, 9, none⟩ (.slice a3 (came.length + 1) c3)).frozen? ⟨R, 10, none⟩ = false := (by simp [World.frozen?, block_set hR3 9 (.slice a3 (came.length + 1) c3)]))
      have hal := (Below.refl _ w).alloc (Nat.le_refl _) (.cells #[.string s] 9)
      have hB3 : Below B w w3 := ((hal.mono hBw)).grown hgrow3 (by simp; omega) (fun k hk => (HI.out.ca.lt k hk).1)
      have hK3 : KT [9] w w3 := ((KT.refl [9] w).alloc _).grown (HI.out.ca.alloc _) hgrow3 (by decide)
      obtain ⟨m1, b1, k1⟩ := H.out.setMore (cv' := .slice a3 (came.length + 1) c3) (rv' := rv) (av' := av) hK3 hB3 9 (.slice a3 (came.length + 1) c3) rfl
      obtain ⟨m2, b2, k2⟩ := m1.setMore (cv' := .slice a3 (came.length + 1) c3) (rv' := .slice none 0 0) (av' := av) (KT.refl [9] _) (Below.refl B _) 10 (.slice none 0 0) rfl
      have i3 : IR F B b w3 (.slice a3 (came.length + 1) c3) rv av false all (came ++ [s]) added refs := (HI.out.new hal hBw).cameN hown3 hgrow3 (Hat.of (Nat.le_refl _) hat3)
      have hI7 := hide (((i3.kt ((Below.refl B w3).setCell hBR _) k1 (by decide)).kt ((Below.refl B _).setCell hBR _) k2 (by decide)).nil)
      have hB7 := hide (b1.trans b2)
      have hK7 : Hid (KT TSI w ((w3.setCell ⟨R, 9, none⟩ (.slice a3 (came.length + 1) c3)).setCell ⟨R, 10, none⟩ (.slice none 0 0))) := hide (((hK3.mono (by decide)).trans (k1.mono (by decide))).trans (k2.mono (by decide)))
      have hM7 := m2
      clear i3 m1 m2 b1 b2 k1 k2 hown3 hgrow3 hat3 hnil3 hB3 hK3 hR3 c93 f93 c103 f103 c9 c10 fz HI H
      generalize (w3.setCell ⟨R, 9, none⟩ (.slice a3 (came.length + 1) c3)).setCell ⟨R, 10, none⟩ (.slice none 0 0) = W7 at hM7 hI7 hB7 hK7 ⊢
      have hM7d := hide (hM7.new (drewB W7))
      have hsz7 := hB7.out.size
      clear hM7
      go_region_with (first
        | (go_at_call 39; refine (Word_any wRefs _).mono ?_; rintro e w4 ⟨bx, rfl, hbx, hb4⟩; have hM8 := hide (hM7d.out.new hb4))
        | (go_at_call 40; refine (Words_any (.func 87) _ _ _).mono ?_; rintro e w5 ⟨rfl, hb5⟩; have hM9 := hide (hM8.out.new hb5); have hbx5 := (hb5.block _ (lt_of_block hbx)).trans hbx)
        | (go_at_call 38; refine (Must_tail (hM9.out.new ((Below.refl _ _).alloc (Nat.le_refl _) _)) w5.heap.size [ivW bx, ivR R] (block_new w5 _) hM9.out.lstNew (by simp) (by simp)).mono ?_; rintro e w6 ⟨⟨r, rfl⟩, lst6, hM10, hb6, hk6⟩))
      all_goals
        have cT := hide (MustTree_rm hM10 (by simp))
        clear hM10
        go_wp2_with fail
        refine cT.out.mono ?_
        rintro e w8 ⟨rfl, lst8, hM11, hb8, hk8⟩
        have hw5 : W7.heap.size ≤ w5.heap.size := Nat.le_trans (drewB W7).size (Nat.le_trans hb4.size hb5.size)
        have hBa : Below B w (w5.alloc (.cells (flatI [ivW bx, ivR R]).toArray 92)) := (below_ext (below_ext (below_ext hB7.out hBw (drewB W7)) hBw hb4) hBw hb5).alloc (by omega) _
        have hBz : Below B w w8 := (hBa.trans hb6).trans hb8
        have hKz : KT TSI w w8 := ((((((hK7.out.trans (KT.new TSI (drewB W7))).trans (KT.new TSI hb4)).trans (KT.new TSI hb5)).alloc _).trans (hk6.mono (by decide))).trans (hk8.mono (by decide)))
        have hB7w : B ≤ W7.heap.size := by omega
        have hIz := ((((((hI7.out.new (drewB W7) hB7w).new hb4 (by have := (drewB W7).size; omega)).new hb5 (by have := (drewB W7).size; have := hb4.size; omega)).new ((Below.refl _ _).alloc (Nat.le_refl _) (.cells (flatI [ivW bx, ivR R]).toArray 92)) (by omega)).kt hb6 hk6 (by decide)).kt hb8 hk8 (by decide))
        have hbx8 := hk8 _ _ _ _ (hk6 _ _ _ _ (block_keep (.cells (flatI [ivW bx, ivR R]).toArray 92) hbx5) (by decide)) (by decide)
        have hF := hide (show IM F B R b w8 left ⟨left0, pos, .tree [.word wNar, .bracket], all, came ++ [s], added, [], g0⟩ from ⟨lst8, _, _, _, _, _, _, _, hM11, ⟨bx, rfl, hbx8⟩, hIz⟩)
        clear hM11 hIz hbx8 cT
        go_wp2
        go_ret
        exact ⟨rfl, hF.out, hBz.mono hB0, hKz⟩
end
end Go.Proofs.YticfcjmlphhpgabGreatDoor
