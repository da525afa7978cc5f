import Derived.Test.YticfcjmlphhpgabGreatDoorB24
namespace Go.Proofs.YticfcjmlphhpgabGreatDoor
open Go.RowKit

section
variable {F : Nat → Prop} {B0 B R b : Nat} {w w' : World} {left lst nds drs cv rv av : Value} {pos : Nat} {g : Gr} {S : List Ent} {came added refs : List ByteArray} {lv : Bool} {tail : List IV} {htl : tail.length ≤ 1000}
theorem own_kb {v : Value} {e s n : Nat} {xs : List Value} (h : w.ownsRow B e s v n xs) (hk : KBz b w w') (hb : b < B) : w'.ownsRow B e s v n xs :=
  own_same h fun g hg => hk.blk g (own_ge h hg).2 (fun e => by have := (own_ge h hg).1; omega)
theorem RM.kb (h : RM (XI b cv rv av tail htl) B R w left lst nds drs pos [] g) (hk : KBz b w w') (hb : b < B) : RM (XI b cv rv av tail htl) B R w' left lst nds drs pos [] g := by
  obtain ⟨ivs, h1, h2⟩ := h.its
  cases ivs with
  | cons a c => exact h1.elim
  | nil => exact ⟨(hk.blk R h.lt (by have := h.BR; omega)).trans h.blk, h.BR, ⟨[], trivial, own_kb h2 hk hb⟩, own_kb h.nd hk hb, own_kb h.dr hk hb⟩
theorem kb_kt {L : List (Bs × Value)} (h : MapAt w b L) (hk : KBz b w w') (ts : List TypeId) : KT ts w w' := fun k c t fz hc _ => by
  obtain ⟨es, cl, hm, _⟩ := h
  exact (hk.blk k (lt_of_block hc) (fun e => by rw [e, hm] at hc; cases hc)).trans hc
theorem put_ir (h : IR F B b w cv rv av true S came added refs) (p : ByteArray) (ns : List Nd) (hl : refs.length ≤ 100000000) (hS : ∀ e ∈ S, e.refs.length ≤ 1000000000) (hs : p.size ≤ 1000000000) :
    Calls Tryz.prog 51 #[.map (some b), .string p, .agg #[.string (packB ns), rv]] w fun e w' => e = .returned (.int .i64 (putS S ⟨p, ns, refs⟩).1) ∧ IR F B b w' cv rv av false (putS S ⟨p, ns, refs⟩).2 came added refs ∧ KBz b w w' ∧ ∀ B', B' ≤ b → Below B' w w' := by
  have hrf := h.rf rfl
  have hx : SliceS w rv refs := own_strs hrf
  obtain ⟨a, c, hrv, _⟩ := own_sl hrf
  have hd := h.dead (rv' := rv) (refs' := refs)
  have hfo : FootV (fun k => FI F B w cv rv av false k ∧ k < w.heap.size) rv := fun ad n' c' e => by
    have hob : rv.ownBlock = some ad.block := by rw [e]; rfl
    obtain ⟨cs, fz, hc⟩ := own_kind hrf _ hob
    refine ⟨.inr ⟨(own_ge hrf hob).1, ?_, (h.d2 rfl _ hob).1, (h.d2 rfl _ hob).2, fun e => by cases e⟩, (own_ge hrf hob).2⟩
    exact ⟨cs, fz, hc⟩
  subst hrv
  refine (put_entF (FI F B w cv (.slice a refs.length c) av false) b S ⟨p, ns, refs⟩ a refs.length c w hd.ps hfo hx (by show refs.length ≤ _; omega) hS hs).mono ?_
  rintro e w1 ⟨rfl, hp, hk, hB⟩
  refine ⟨rfl, ⟨own_kb h.ca hk h.lt, own_kb h.ad hk h.lt, (fun e => by cases e), h.d1, (fun e => by cases e), hp.mono fun k hf => ?_, h.lt⟩, hk, hB⟩
  rcases hf with hf | ⟨hBk, ⟨cs, fz, hc⟩, h1⟩
  · exact .inl hf
  · obtain ⟨L, hm, _⟩ := h.ps.st
    exact .inr ⟨hBk, ⟨cs, fz, kb_kt hm hk [] _ _ _ _ hc (by simp)⟩, h1⟩
set_option maxRecDepth 20000 in
set_option maxHeartbeats 4000000 in
theorem keep_any (h : RM (XI b cv rv av tail htl) B R w left lst nds drs pos [] g) (hi : IR F B b w cv rv av true S came added refs) (hne : came ≠ []) (hcl : came.length ≤ 100000000) (hadl : added.length ≤ 100000000) (hrl : refs.length ≤ 100000000) (hS : ∀ e ∈ S, e.refs.length ≤ 1000000000) (hps : (lastS came).size ≤ 1000000) (ns : List Nd) :
    Calls Tryz.prog 124 #[.pointer (some ⟨R, 0, none⟩), .agg #[.string (packB ns), rv]] w fun e w' => e = .returned (.int .i64 (putS S ⟨lastS came, ns, refs⟩).1) ∧ (∃ av', RM (XI b cv rv av' tail htl) B R w' left lst nds drs pos [] g ∧ IR F B b w' cv rv av' false (putS S ⟨lastS came, ns, refs⟩).2 came (if (findS S (lastS came)).isNone = true then added ++ [lastS came] else added) refs) ∧ (∀ B', B' ≤ b → Below B' w w') ∧ KT TSI w w' := by
  have hBw : B ≤ w.heap.size := by have := h.lt; have := h.BR; omega
  obtain ⟨ra, rc, hrv, _⟩ := own_sl (hi.rf rfl)
  have hblt := hi.lt
  subst hrv
  have hal := (Below.refl _ w).alloc (Nat.le_refl _) (.cells #[.string (packB ns), .slice ra refs.length rc] 74)
  have hbx1 := block_new w (.cells #[.string (packB ns), .slice ra refs.length rc] 74)
  have hM1 := h.new hal
  have hI1 := hi.new hal hBw
  have hz1 : (w.alloc (.cells #[.string (packB ns), .slice ra refs.length rc] 74)).heap.size = w.heap.size + 1 := by simp
  obtain ⟨⟨_, c9, _, _⟩, _⟩ := hM1.more
  have cP := hide (impPath_any c9 hI1.ca hne hcl)
  generalize lastS came = lp at cP hps ⊢
  obtain ⟨P, hP⟩ : ∃ P, putS S ⟨lp, ns, refs⟩ = P := ⟨_, rfl⟩
  obtain ⟨N, hN⟩ : ∃ N, (findS S lp).isNone = N := ⟨_, rfl⟩
  rw [hP, hN]
  have HP := hide hP
  have HN := hide hN
  clear hP hN
  have HM1 := hide hM1
  have HI1 := hide hI1
  have Hal := hide hal
  have Hbx := hide hbx1
  clear h hi hM1 hI1 hal hbx1 c9
  go_enter Tryz.func124, Tryz.ntmps124
  go_wp2_with fail
  refine cP.out.mono ?_
  rintro e w2 ⟨rfl, q, rfl⟩
  have hq := drewNB (w.alloc (.cells #[.string (packB ns), .slice ra refs.length rc] 74)) q
  have HM2 := hide (HM1.out.new hq)
  have HI2 := hide (HI1.out.new hq (by omega))
  have Hbx2 := hide ((hq.block _ (by omega)).trans Hbx.out)
  have HB2 := hide (Hal.out.trans (hq.mono Hal.out.size))
  have hz2 := hq.size
  rw [hz1] at hz2
  generalize (w.alloc (.cells #[.string (packB ns), .slice ra refs.length rc] 74)).drewN q = w2 at HM2 HI2 Hbx2 HB2 hz2 ⊢
  clear cP HM1 HI1 Hal Hbx hq hz1
  have cL : Hid (Calls Tryz.prog 32 #[.map (some b), .string lp] w2 fun e w' => e = .returned (.bool N) ∧ Below w2.heap.size w2 w') := by
    obtain ⟨L, h1, h2⟩ := HI2.out.ps.st
    refine hide ((lacks_any b L lp w2 h1 h2.ents (by omega)).mono ?_)
    rintro e w' ⟨rfl, hb⟩
    exact ⟨by rw [h2.none, HN.out], hb⟩
  obtain ⟨⟨c8, _, _, _⟩, _⟩ := HM2.out.more
  go_wp2_with fail
  refine cL.out.mono ?_
  rintro e w3 ⟨rfl, hb3⟩
  have HM3 := hide (HM2.out.new hb3)
  have HI3 := hide (HI2.out.new hb3 (by omega))
  have Hbx3 := hide ((hb3.block _ (by omega)).trans Hbx2.out)
  have HB3 := hide (HB2.out.trans (hb3.mono HB2.out.size))
  have hz3 := hb3.size
  clear cL HM2 HI2 Hbx2 HB2 c8
  have fin : ∀ (W : World) (av' : Value) (added' : List ByteArray), RM (XI b cv (.slice ra refs.length rc) av' tail htl) B R W left lst nds drs pos [] g → IR F B b W cv (.slice ra refs.length rc) av' true S came added' refs → (∀ B', B' ≤ b → Below B' w W) → KT TSI w W → Calls Tryz.prog 51 #[.map (some b), .string lp, .agg #[.string (packB ns), .slice ra refs.length rc]] W fun e w' => e = .returned (.int .i64 (putS S ⟨lp, ns, refs⟩).1) ∧ (∃ av', RM (XI b cv (.slice ra refs.length rc) av' tail htl) B R w' left lst nds drs pos [] g ∧ IR F B b w' cv (.slice ra refs.length rc) av' false (putS S ⟨lp, ns, refs⟩).2 came added' refs) ∧ (∀ B', B' ≤ b → Below B' w w') ∧ KT TSI w w' := by
    intro W av' added' hM hI hB hK
    refine (put_ir hI lp ns hrl hS (by omega)).mono ?_
    rintro e w1 ⟨rfl, hI1, hk, hB1⟩
    obtain ⟨L, hm, _⟩ := hI.ps.st
    exact ⟨rfl, ⟨av', hM.kb hk hI.lt, hI1⟩, fun B' h' => (hB B' h').trans (hB1 B' h'), hK.trans (kb_kt hm hk TSI)⟩
  rw [HP.out] at fin
  have FIN := hide fin
  clear fin
  cases N with
  | false =>
    have b0 : w3.cell? ⟨w.heap.size, 0, none⟩ = some (.string (packB ns)) := by simp [World.cell?, Hbx3.out]
    have b1 : w3.cell? ⟨w.heap.size, 1, none⟩ = some (.slice ra refs.length rc) := by simp [World.cell?, Hbx3.out]
    obtain ⟨⟨c8, _, _, _⟩, _⟩ := HM3.out.more
    have cF := hide (FIN.out w3.drew av added (HM3.out.new (drewB w3)) (HI3.out.new (drewB w3) (by omega)) (fun B' h' => (HB3.out.mono (by omega)).trans ((drewB w3).mono (by omega))) ((KT.new TSI HB3.out).trans (KT.new TSI (drewB w3))))
    clear FIN HM3 HI3 Hbx3 HB3 hb3
    go_wp2
    go_region_with (go_at_call 51; refine cF.out.mono ?_; rintro e w6 ⟨rfl, hres, hBz, hKz⟩)
    all_goals
      go_wp2
      go_ret
      exact ⟨rfl, hres, hBz, hKz⟩
  | true =>
    obtain ⟨⟨_, _, _, c11⟩, _⟩ := HM3.out.more
    obtain ⟨aa, ac, hav, _⟩ := own_sl HI3.out.ad
    obtain ⟨i9, hi9, h90, h91, h92⟩ := info_parts Tryz.info9
    have hlt := HM3.out.lt
    have hBR := HM3.out.BR
    have hRrow : some R ≠ av.ownBlock := fun e => by
      obtain ⟨c, f, hc⟩ := own_kind HI3.out.ad R e.symm
      rw [HM3.out.blk] at hc
      injection hc with hc
      injection hc with _ hc _
      exact absurd (show (88 : TypeId) = 9 from hc) (by decide)
    subst hav
    go_wp2_with (at_builtin; refine wpList_append_own_at _ rfl (.tmp 18) (.tmp 20) 23 rfl B 9 i9 (.string ⟨#[]⟩) 1 16 Tryz.underlying23 hi9 h90 h91 h92 rfl (by decide) _ _ _ rfl (HI3.out.ad.alloc _) ⟨w3.heap.size, 0, none⟩ 1 1 [.string lp] rfl rfl (cell_one_at _ _ _ _ rfl) (fun x hx => by simp at hx; subst hx; rfl) (by unfold maxLen; omega) (by omega) (by simp; omega) ?_; intro v4 w4 hown4 hgrow4 hnil4 hat4; obtain ⟨a4, c4, rfl, _⟩ := own_sl hown4; have hR4 := (hgrow4.block R (by simp; omega) hRrow).trans (block_keep _ HM3.out.blk); have c114 : w4.cell? ⟨R, 11, none⟩ = some (.slice aa added.length ac) := (by simp [World.cell?, hR4, XI]); have f114 : w4.frozen? ⟨R, 11, none⟩ = false := (by simp [World.frozen?, hR4]))
    have hal := (Below.refl _ w3).alloc (Nat.le_refl _) (.cells #[.string lp] 9)
    have hB4 : Below B w3 w4 := (hal.mono (by omega)).grown hgrow4 (by simp; omega) (fun k hk => (HI3.out.ad.lt k hk).1)
    have hK4 : KT [9] w3 w4 := ((KT.refl [9] w3).alloc _).grown (HI3.out.ad.alloc _) hgrow4 (by decide)
    obtain ⟨m1, b1, k1⟩ := HM3.out.setMore (cv' := cv) (rv' := .slice ra refs.length rc) (av' := .slice a4 (added.length + 1) c4) hK4 hB4 11 (.slice a4 (added.length + 1) c4) rfl
    have i4 : IR F B b w4 cv (.slice ra refs.length rc) (.slice a4 (added.length + 1) c4) true S came (added ++ [lp]) refs := (HI3.out.new hal (by omega)).add hown4 hgrow4 (Hat.of (Nat.le_refl _) hat4)
    have i5 := i4.kt ((Below.refl B w4).setCell hBR _) k1 (by decide)
    have hbx4 := k1 _ _ _ _ (hK4 _ _ _ _ Hbx3.out (by decide)) (by decide)
    have hB5 : Below B w3 (w4.setCell ⟨R, 11, none⟩ (.slice a4 (added.length + 1) c4)) := b1
    have hK5 : KT TSI w (w4.setCell ⟨R, 11, none⟩ (.slice a4 (added.length + 1) c4)) := ((KT.new TSI HB3.out).trans (hK4.mono (by decide))).trans (k1.mono (by decide))
    have HB5 : Hid (∀ B', B' ≤ b → Below B' w (w4.setCell ⟨R, 11, none⟩ (.slice a4 (added.length + 1) c4))) := hide (fun B' h' => (HB3.out.mono (by omega)).trans (hB5.mono (by omega)))
    clear hown4 hgrow4 hat4 hnil4 hB4 hK4 hR4 c114 f114 i4 k1 c11 HM3 HI3 HB3 Hbx3 hal
    generalize w4.setCell ⟨R, 11, none⟩ (.slice a4 (added.length + 1) c4) = W5 at m1 i5 hbx4 hB5 hK5 HB5 ⊢
    have b0 : W5.cell? ⟨w.heap.size, 0, none⟩ = some (.string (packB ns)) := by simp [World.cell?, hbx4]
    have b1 : W5.cell? ⟨w.heap.size, 1, none⟩ = some (.slice ra refs.length rc) := by simp [World.cell?, hbx4]
    obtain ⟨⟨c8, _, _, _⟩, _⟩ := m1.more
    have hz5 := hB5.size
    have cF := hide (FIN.out W5.drew (.slice a4 (added.length + 1) c4) (added ++ [lp]) (m1.new (drewB W5)) (i5.new (drewB W5) (by omega)) (fun B' h' => (HB5.out B' h').trans ((drewB W5).mono (by omega))) (hK5.trans (KT.new TSI (drewB W5))))
    clear FIN m1 i5 hbx4 hB5 hK5 HB5
    go_region_with (go_at_call 51; refine cF.out.mono ?_; rintro e w6 ⟨rfl, hres, hBz, hKz⟩)
    all_goals
      go_wp2
      go_ret
      exact ⟨rfl, hres, hBz, hKz⟩
end
section
variable {F : Nat → Prop} {B0 B R b : Nat} {w : World} {left lst nds drs cv rv av : Value} {pos : Nat} {st : IS} {tail : List IV} {htl : tail.length ≤ 1000}
set_option maxRecDepth 20000 in
set_option maxHeartbeats 4000000 in
theorem takeSum_any (hB0 : B0 ≤ b) (htail : tail = [ivX R]) (h : RM (XI b cv rv av tail htl) B R w left lst nds drs pos [] st.g) (hi : IR F B b w cv rv av (live st.ph) st.all st.came st.added st.refs) (hph : st.ph = .sum) (hne : st.came ≠ []) (hcl : st.came.length ≤ 100000000) (hadl : st.added.length ≤ 100000000) (hrl : st.refs.length ≤ 100000000) (hS : ∀ e ∈ st.all, e.refs.length ≤ 1000000000) (hps : (lastS st.came).size ≤ 1000000)
    (b1 b2 b3 : Nat) (h1 : w.heap[b1]? = some (.cells #[.string (sumG st.g)] 9 (0, 0))) (h2 : w.heap[b2]? = some (.cells #[.pointer (some ⟨R, 0, none⟩)] 75 (0, 0))) (h3 : w.heap[b3]? = some (.cells #[.string (packB st.g.nodes)] 9 (0, 0))) (s : ByteArray) :
    Calls Tryz.prog 123 #[.string s, .pointer (some ⟨b1, 0, none⟩), .pointer (some ⟨b2, 0, none⟩), .pointer (some ⟨b3, 0, none⟩)] w (TIPost F B0 B R b w left pos (takeI st s)) := by
  obtain ⟨left0, pos0, ph, all, came, added, refs, g⟩ := st
  simp only at hph h hi hne hcl hadl hrl hS hps h1 h3
  subst hph
  have hi' : IR F B b w cv rv av true all came added refs := hi
  have hBw : B ≤ w.heap.size := by have := h.lt; have := h.BR; omega
  have x1 : w.cell? ⟨b1, 0, none⟩ = some (.string (sumG g)) := by simp [World.cell?, h1]
  have x2 : w.cell? ⟨b2, 0, none⟩ = some (.pointer (some ⟨R, 0, none⟩)) := by simp [World.cell?, h2]
  have x3 : w.cell? ⟨b3, 0, none⟩ = some (.string (packB g.nodes)) := by simp [World.cell?, h3]
  obtain ⟨T, hT⟩ : ∃ T, takeI ⟨left0, pos0, .sum, all, came, added, refs, g⟩ s = T := ⟨_, rfl⟩
  rw [hT]
  rw [takeI_sum] at hT
  by_cases hs : s = sumG g
  · rw [if_pos hs] at hT
    subst hs
    obtain ⟨⟨_, _, c10, _⟩, _⟩ := h.more
    obtain ⟨ra, rc, hrv, _⟩ := own_sl (hi'.rf rfl)
    subst hrv
    have cK := hide (keep_any (h.new (drewB w)) (hi'.new (drewB w) hBw) hne hcl hadl hrl hS hps g.nodes)
    have hwr : ∀ (W : World), (∀ B', B' ≤ b → Below B' w.drew W) → Below B0 w W := fun W hW => ((drewB w).mono (by have := hi'.lt; omega)).trans (hW B0 hB0)
    have hbb : ((sumG g).toList == (sumG g).toList) = true := by simp
    have HTk := hide hT
    clear h hi hi' h1 h2 h3 hT
    go_enter Tryz.func123, Tryz.ntmps123
    go_wp2
    go_region_with (go_at_call 124; refine cK.out.mono ?_; rintro e w6 ⟨rfl, ⟨av', hM6, hI6⟩, hBz, hKz⟩)
    all_goals
      have hF : Hid (TIPost F B0 B R b w left pos T (.returned (.int .i64 (putS all ⟨lastS came, g.nodes, refs⟩).1)) w6) := by
        show TIPost _ _ _ _ _ _ _ _ _ _ _
        rw [← HTk.out]
        by_cases hz : (putS all ⟨lastS came, g.nodes, refs⟩).1 = 0
        · rw [if_pos hz, hz]
          exact ⟨rfl, ⟨lst, _, _, _, _, _, _, _, hM6, htail, hI6⟩, hwr _ hBz, (KT.new TSI (drewB w)).trans hKz⟩
        · rw [if_neg hz]
          exact ⟨rfl, hM6.rblk, hwr _ hBz⟩
      clear hM6 hI6 hBz hKz HTk
      generalize (putS all ⟨lastS came, g.nodes, refs⟩).1 = er at hF
      go_wp2
      go_ret
      exact hF.out
  · rw [if_neg hs] at hT
    subst hT
    have hbb := eqB_false hs
    have hR := hide h.rblk
    clear h hi hi' h1 h2 h3 hs x3 x2
    go_enter Tryz.func123, Tryz.ntmps123
    go_wp2
    go_ret
    exact ⟨rfl, hR.out, Below.refl _ _⟩
end
end Go.Proofs.YticfcjmlphhpgabGreatDoor
