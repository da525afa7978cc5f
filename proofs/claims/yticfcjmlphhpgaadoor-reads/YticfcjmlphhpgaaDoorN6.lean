/-
  WALKS of the document's reader, 4: a node, a link; none.
-/
import Derived.Test.YticfcjmlphhpgaaDoorN5
import Derived.Test.YticfcjmlphhpgaaDoorW10
namespace Go.Proofs.YticfcjmlphhpgaaDoor
open Go.RowKit

set_option maxRecDepth 20000 in
set_option maxHeartbeats 2000000 in
theorem rnode_link {B R : Nat} {w : World} {s : ByteArray} {v : Value} {st : Ns} (h : QR B R w s v st) (hs : s.size ≤ 50000000) (path : ByteArray) (deep : Nat)
    (hw : (wordN s.data.toList [wFile, wLink, wDir] (headN s.data.toList deep st)).2 = wLink) :
    Calls Tryd.prog 43 #[.pointer (some ⟨R, 0, none⟩), .string path, .int .i64 deep] w fun e w' => (∃ r, e = .returned r) ∧ QQ B R w s (linkN s.data.toList path (wordN s.data.toList [wFile, wLink, wDir] (headN s.data.toList deep st)).1) w' := by
  obtain ⟨i45, hi, hz0, hz1, hz2⟩ := info_parts Tryd.info45
  have he3 := word_some (may := [wFile, wLink, wDir]) (st := headN s.data.toList deep st) (by rw [hw]; decide)
  obtain ⟨he2, hg3⟩ := word_grow he3
  obtain ⟨_, hg2⟩ := head_grow he2
  obtain ⟨h5, h30, hhd⟩ := head_ok he2
  have hl3 := word_l s.data.toList [wFile, wLink, wDir] (headN s.data.toList deep st)
  rw [hhd] at hw he3 hg3 hg2 hl3 ⊢
  rw [must_l, must_l] at hl3
  obtain ⟨a, cap, rfl, hcap⟩ := own_slice h.nd
  have hllp := h.ll
  have cM1 := hide (rmust_any h wOpen hs)
  have c1 : w.cell? ⟨R, 1, none⟩ = some (.int .i64 st.pos) := by simp [World.cell?, h.blk]
  have h5z : ¬ (5 : Int) < deep := by omega
  have h30z : ¬ (st.l.length : Int) = 30 := by omega
  have h30b : ((st.l.length : Int) == 30) = false := beq_eq_false_iff_ne.2 h30z
  generalize e1 : mustN s.data.toList wOpen st = st1 at *
  generalize e2 : mustN s.data.toList wType st1 = st2 at *
  generalize e3 : wordN s.data.toList [wFile, wLink, wDir] st2 = WX at *
  obtain ⟨st3, t⟩ := WX
  simp only at hw he3 hg3 hl3 ⊢
  have E2 := hide e2
  have E3 := hide e3
  unfold linkN leadN
  have hm4 := must_mono s.data.toList wTo st3
  have hl4 := must_l s.data.toList wTo st3
  generalize e4 : mustN s.data.toList wTo st3 = st4 at *
  rw [hl3] at hl4
  have E4 := hide e4
  have tbf := list_ne (show ¬ t = wFile by rw [hw]; decide) _ file_list
  have tb := list_eq hw _ link_list
  have hm5 := next_mono s.data.toList 100 st4
  have hl5 := next_l s.data.toList 100 st4
  have hd5 := next_size s.data.toList 100 st4
  generalize e5 : nextN s.data.toList 100 st4 = NX at *
  obtain ⟨st5, d⟩ := NX
  simp only at hm5 hl5 hd5 ⊢
  rw [hl4] at hl5
  have E5 := hide e5
  have hL5 := congrArg List.length hl5
  have hP5 : st5.l.length + 1 ≤ st5.pos := by omega
  clear h hw e1 e2 e3 e4 e5 hhd he2 h30 hl3 hl4 hl5 hL5
  cases hf : fits 3 d.data.toList with
  | true =>
    have eF : Ns.failIf st5 (!true) 6 st4.pos = st5 := rfl
    rw [eF]
    have hP : st5.l.length + 1 ≤ st5.pos := hP5
    clear eF hP5
    go_enter Tryd.func43, Tryd.ntmps43
    go_wp2_with fail
    refine cM1.out.mono ?_
    rintro e w1 ⟨⟨r, rfl⟩, hq1⟩
    have Q1 := hide hq1
    have c4 : w1.cell? ⟨R, 4, none⟩ = some (.slice a st.l.length cap) := by simp [World.cell?, hq1.1.blk]
    have cM2 := hide (rmust_any hq1.1 wType hs)
    rw [E2.out] at cM2
    clear cM1 c1 hq1
    go_wp2_with fail
    refine cM2.out.mono ?_
    rintro e w2 ⟨⟨r2, rfl⟩, hq2⟩
    have Q2 := hide (Q1.out.trans hq2)
    have cW := hide (rword_new hq2.1 [wFile, wLink, wDir] #[.string ⟨#[102, 105, 108, 101]⟩, .string ⟨#[108, 105, 110, 107]⟩, .string ⟨#[100, 105, 114]⟩] rfl 3 rfl w2.heap.size rfl (by simp) hs)
    rw [E3.out] at cW
    clear cM2 c4 hq2 Q1
    go_wp2_with fail
    refine cW.out.mono ?_
    rintro e w3 ⟨rfl, hq3⟩
    have Q3 := hide (Q2.out.trans hq3)
    have cT := hide (rmust_any Q3.out.1 wTo hs)
    rw [E4.out] at cT
    clear cW hq3 Q2
    go_wp2_with fail
    refine cT.out.mono ?_
    rintro e w4 ⟨⟨r4, rfl⟩, hq4⟩
    have Q4 := hide (Q3.out.trans hq4)
    have cN := hide (rnext_any hq4.1 100 (by omega) hs)
    rw [E5.out] at cN
    have c1 : w4.cell? ⟨R, 1, none⟩ = some (.int .i64 st4.pos) := by simp [World.cell?, hq4.1.blk]
    clear cT hq4 Q3
    go_wp2_with fail
    refine cN.out.mono ?_
    rintro e w5 ⟨rfl, hq5⟩
    have Q5 := hide (Q4.out.trans hq5)
    have cL := hide (filled_any 3 d w5 (by omega))
    rw [hf] at cL
    clear cN c1 hq5 Q4
    go_wp2_with fail
    refine cL.out.mono ?_
    rintro e w5b ⟨rfl, rfl⟩
    clear cL
    have O5 := hide Q5.out.1.nd
    have c45 : w5b.cell? ⟨R, 4, none⟩ = some (.slice a st.l.length cap) := by simp [World.cell?, Q5.out.1.blk]
    have hrow5 := hide (fun e : some R = (Value.slice a st.l.length cap).ownBlock => Q5.out.1.row e.symm)
    have hle5 := Q5.out.1.le
    have hR5 := Q5.out.1.lt
    have hB5 := Q5.out.1.Bw
    go_wp2_with (at_builtin; refine wpList_append_own _ rfl (.tmp 81) (.tmp 85) 22 rfl B 45 i45 (.agg #[.string ⟨#[]⟩, .int .i64 0, .string ⟨#[]⟩]) 3 40 Tryd.underlying22 hi hz0 hz1 hz2 rfl (by decide) (.slice a st.l.length cap) st5.l.length (flat3 st5.l) rfl (O5.out.alloc _) ⟨w5b.heap.size, 0, none⟩ 1 1 [.string path, .int .i64 3, .string d] rfl rfl (cell_three_at _ _ _ _ _ _ rfl) (fun x hx => by simp at hx; rcases hx with rfl | rfl | rfl <;> rfl) (by unfold maxLen; omega) (by omega) (by simp; try omega) ?_; intro v6 w6 hown6 hgrow6 hat6; obtain ⟨g6, cap6, rfl, hcap6⟩ := own_form hown6 (by omega); have hR6 := hide ((hgrow6.block R (by simp; try omega) hrow5.out).trans (block_keep (w := w5b) _ Q5.out.1.blk)); have c46 : w6.cell? ⟨R, 4, none⟩ = some (.slice a st.l.length cap) := (by simp [World.cell?, hR6.out]); have f46 : w6.frozen? ⟨R, 4, none⟩ = false := (by simp [World.frozen?, hR6.out]); obtain ⟨hR7, hB7, hK7⟩ := Q5.out.1.push ⟨path, 3, d⟩ hown6 (((KT.refl [45] w5b).alloc _).grown (O5.out.alloc _) hgrow6 (by decide)) (((Below.refl B w5b).alloc hB5 _).grown hgrow6 (by simp; try omega) (fun k hk => (O5.out.lt k hk).1)) hP; have HR7 := hide hR7; have HB7 := hide hB7; have HK7 := hide hK7; clear hown6 hgrow6 hat6 hR7 hB7 hK7 hR6)
    generalize w6.setCell ⟨R, 4, none⟩ (.slice (some ⟨g6, 0, none⟩) (st5.l.length + 1) cap6) = W7 at HR7 HB7 HK7 ⊢
    have cC := hide (rmust_any HR7.out wClose hs)
    clear c46 f46 c45 HR7
    go_wp2_with fail
    refine cC.out.mono ?_
    rintro e w8 ⟨⟨r8, rfl⟩, hq8⟩
    go_wp2
    go_end0
    exact ⟨⟨_, rfl⟩, Q5.out.q ⟨⟨_, hq8.1⟩, HB7.out.trans hq8.2.1, HK7.out.trans (hq8.2.2.mono (by decide))⟩⟩
  | false =>
    have eF : Ns.failIf st5 (!false) 6 st4.pos = st5.fail 6 st4.pos := rfl
    rw [eF]
    have hP : (st5.fail 6 st4.pos).l.length + 1 ≤ (st5.fail 6 st4.pos).pos := by rw [(fail_l _ _ _).1, (fail_l _ _ _).2]; exact hP5
    clear eF hP5
    generalize eG : st5.fail 6 st4.pos = st6 at *
    have E6 := hide eG
    clear eG
    go_enter Tryd.func43, Tryd.ntmps43
    go_wp2_with fail
    refine cM1.out.mono ?_
    rintro e w1 ⟨⟨r, rfl⟩, hq1⟩
    have Q1 := hide hq1
    have c4 : w1.cell? ⟨R, 4, none⟩ = some (.slice a st.l.length cap) := by simp [World.cell?, hq1.1.blk]
    have cM2 := hide (rmust_any hq1.1 wType hs)
    rw [E2.out] at cM2
    clear cM1 c1 hq1
    go_wp2_with fail
    refine cM2.out.mono ?_
    rintro e w2 ⟨⟨r2, rfl⟩, hq2⟩
    have Q2 := hide (Q1.out.trans hq2)
    have cW := hide (rword_new hq2.1 [wFile, wLink, wDir] #[.string ⟨#[102, 105, 108, 101]⟩, .string ⟨#[108, 105, 110, 107]⟩, .string ⟨#[100, 105, 114]⟩] rfl 3 rfl w2.heap.size rfl (by simp) hs)
    rw [E3.out] at cW
    clear cM2 c4 hq2 Q1
    go_wp2_with fail
    refine cW.out.mono ?_
    rintro e w3 ⟨rfl, hq3⟩
    have Q3 := hide (Q2.out.trans hq3)
    have cT := hide (rmust_any Q3.out.1 wTo hs)
    rw [E4.out] at cT
    clear cW hq3 Q2
    go_wp2_with fail
    refine cT.out.mono ?_
    rintro e w4 ⟨⟨r4, rfl⟩, hq4⟩
    have Q4 := hide (Q3.out.trans hq4)
    have cN := hide (rnext_any hq4.1 100 (by omega) hs)
    rw [E5.out] at cN
    have c1 : w4.cell? ⟨R, 1, none⟩ = some (.int .i64 st4.pos) := by simp [World.cell?, hq4.1.blk]
    clear cT hq4 Q3
    go_wp2_with fail
    refine cN.out.mono ?_
    rintro e w5 ⟨rfl, hq5⟩
    have Q5 := hide (Q4.out.trans hq5)
    have cL := hide (filled_any 3 d w5 (by omega))
    rw [hf] at cL
    clear cN c1 hq5 Q4
    go_wp2_with fail
    refine cL.out.mono ?_
    rintro e w5b ⟨rfl, rfl⟩
    clear cL
    have cF := hide (rfail_any Q5.out.1 6 st4.pos)
    rw [E6.out] at cF
    go_wp2_with fail
    refine cF.out.mono ?_
    rintro e wF ⟨⟨rF, rfl⟩, hqF⟩
    have QF := hide (Q5.out.trans hqF)
    clear cF hqF Q5
    have O5 := hide QF.out.1.nd
    have c45 : wF.cell? ⟨R, 4, none⟩ = some (.slice a st.l.length cap) := by simp [World.cell?, QF.out.1.blk]
    have hrow5 := hide (fun e : some R = (Value.slice a st.l.length cap).ownBlock => QF.out.1.row e.symm)
    have hle5 := QF.out.1.le
    have hR5 := QF.out.1.lt
    have hB5 := QF.out.1.Bw
    go_wp2_with (at_builtin; refine wpList_append_own _ rfl (.tmp 81) (.tmp 85) 22 rfl B 45 i45 (.agg #[.string ⟨#[]⟩, .int .i64 0, .string ⟨#[]⟩]) 3 40 Tryd.underlying22 hi hz0 hz1 hz2 rfl (by decide) (.slice a st.l.length cap) st6.l.length (flat3 st6.l) rfl (O5.out.alloc _) ⟨wF.heap.size, 0, none⟩ 1 1 [.string path, .int .i64 3, .string d] rfl rfl (cell_three_at _ _ _ _ _ _ rfl) (fun x hx => by simp at hx; rcases hx with rfl | rfl | rfl <;> rfl) (by unfold maxLen; omega) (by omega) (by simp; try omega) ?_; intro v6 w6 hown6 hgrow6 hat6; obtain ⟨g6, cap6, rfl, hcap6⟩ := own_form hown6 (by omega); have hR6 := hide ((hgrow6.block R (by simp; try omega) hrow5.out).trans (block_keep (w := wF) _ QF.out.1.blk)); have c46 : w6.cell? ⟨R, 4, none⟩ = some (.slice a st.l.length cap) := (by simp [World.cell?, hR6.out]); have f46 : w6.frozen? ⟨R, 4, none⟩ = false := (by simp [World.frozen?, hR6.out]); obtain ⟨hR7, hB7, hK7⟩ := QF.out.1.push ⟨path, 3, d⟩ hown6 (((KT.refl [45] wF).alloc _).grown (O5.out.alloc _) hgrow6 (by decide)) (((Below.refl B wF).alloc hB5 _).grown hgrow6 (by simp; try omega) (fun k hk => (O5.out.lt k hk).1)) hP; have HR7 := hide hR7; have HB7 := hide hB7; have HK7 := hide hK7; clear hown6 hgrow6 hat6 hR7 hB7 hK7 hR6)
    generalize w6.setCell ⟨R, 4, none⟩ (.slice (some ⟨g6, 0, none⟩) (st6.l.length + 1) cap6) = W7 at HR7 HB7 HK7 ⊢
    have cC := hide (rmust_any HR7.out wClose hs)
    clear c46 f46 c45 HR7
    go_wp2_with fail
    refine cC.out.mono ?_
    rintro e w8 ⟨⟨r8, rfl⟩, hq8⟩
    go_wp2
    go_end0
    exact ⟨⟨_, rfl⟩, QF.out.q ⟨⟨_, hq8.1⟩, HB7.out.trans hq8.2.1, HK7.out.trans (hq8.2.2.mono (by decide))⟩⟩
set_option maxRecDepth 20000 in
set_option maxHeartbeats 2000000 in
theorem rnode_none {B R : Nat} {w : World} {s : ByteArray} {v : Value} {st : Ns} (h : QR B R w s v st) (hs : s.size ≤ 50000000) (path : ByteArray) (deep : Nat) (hdp : deep ≤ 100000000)
    (hw1 : ¬ (wordN s.data.toList [wFile, wLink, wDir] (headN s.data.toList deep st)).2 = wFile) (hw2 : ¬ (wordN s.data.toList [wFile, wLink, wDir] (headN s.data.toList deep st)).2 = wLink) (hw3 : ¬ (wordN s.data.toList [wFile, wLink, wDir] (headN s.data.toList deep st)).2 = wDir) :
    Calls Tryd.prog 43 #[.pointer (some ⟨R, 0, none⟩), .string path, .int .i64 deep] w fun e w' => (∃ r, e = .returned r) ∧ QQ B R w s (wordN s.data.toList [wFile, wLink, wDir] (headN s.data.toList deep st)).1 w' := by
  obtain ⟨a, cap, rfl, hcap⟩ := own_slice h.nd
  have hllp := h.ll
  have hle := h.le
  have cM1 := hide (rmust_any h wOpen hs)
  have c1 : w.cell? ⟨R, 1, none⟩ = some (.int .i64 st.pos) := by simp [World.cell?, h.blk]
  generalize e3 : wordN s.data.toList [wFile, wLink, wDir] (headN s.data.toList deep st) = WX at *
  obtain ⟨st3, t⟩ := WX
  simp only at hw1 hw2 hw3 ⊢
  unfold headN at e3
  generalize e1 : mustN s.data.toList wOpen st = st1 at *
  have tb1 := list_ne hw1 _ file_list
  have tb2 := list_ne hw2 _ link_list
  have tb3 := list_ne hw3 _ dir_list
  clear h hw1 hw2 hw3 e1
  by_cases h5 : 5 < deep
  · by_cases h30 : st.l.length = 30
    · have h5z : (5 : Int) < deep := by omega
      rw [decide_eq_true h5] at e3
      have h30z : (st.l.length : Int) = 30 := by omega
      have h30b : ((st.l.length : Int) == 30) = true := by rw [h30z]; rfl
      rw [decide_eq_true h30] at e3
      have E3 := hide e3
      clear e3 h30 h30z
      go_enter Tryd.func43, Tryd.ntmps43
      go_wp2_with fail
      refine cM1.out.mono ?_
      rintro e w1 ⟨⟨r, rfl⟩, hq1⟩
      have Q1 := hide hq1
      clear cM1 c1 hq1
      have cF := hide (rfail_any Q1.out.1 8 st.pos)
      go_wp2_with fail
      refine cF.out.mono ?_
      rintro e wF ⟨⟨rF, rfl⟩, hqF⟩
      have QF := hide (Q1.out.trans hqF)
      clear cF hqF Q1
      have c4 : wF.cell? ⟨R, 4, none⟩ = some (.slice a st.l.length cap) := by simp [World.cell?, QF.out.1.blk]
      have cG := hide (rfail_any QF.out.1 9 st.pos)
      go_wp2_with fail
      refine cG.out.mono ?_
      rintro e wG ⟨⟨rG, rfl⟩, hqG⟩
      have QG := hide (QF.out.trans hqG)
      clear cG hqG QF
      have cM2 := hide (rmust_any QG.out.1 wType hs)
      go_wp2_with fail
      refine cM2.out.mono ?_
      rintro e w2 ⟨⟨r2, rfl⟩, hq2⟩
      have Q2 := hide (QG.out.trans hq2)
      have cW := hide (rword_new hq2.1 [wFile, wLink, wDir] #[.string ⟨#[102, 105, 108, 101]⟩, .string ⟨#[108, 105, 110, 107]⟩, .string ⟨#[100, 105, 114]⟩] rfl 3 rfl w2.heap.size rfl (by simp) hs)
      have E3' : wordN s.data.toList [wFile, wLink, wDir] (mustN s.data.toList wType ((st1.fail 8 st.pos).fail 9 st.pos)) = (st3, t) := E3.out
      rw [E3'] at cW
      clear cM2 c4 hq2 QG E3 E3'
      go_wp2_with fail
      refine cW.out.mono ?_
      rintro e w3 ⟨rfl, hq3⟩
      go_wp2
      go_end0
      exact ⟨⟨_, rfl⟩, (Q2.out.trans hq3).qq⟩
    · have h5z : (5 : Int) < deep := by omega
      rw [decide_eq_true h5] at e3
      have h30z : ¬ (st.l.length : Int) = 30 := by omega
      have h30b : ((st.l.length : Int) == 30) = false := beq_eq_false_iff_ne.2 h30z
      rw [decide_eq_false h30] at e3
      have E3 := hide e3
      clear e3 h30 h30z
      go_enter Tryd.func43, Tryd.ntmps43
      go_wp2_with fail
      refine cM1.out.mono ?_
      rintro e w1 ⟨⟨r, rfl⟩, hq1⟩
      have Q1 := hide hq1
      clear cM1 c1 hq1
      have cF := hide (rfail_any Q1.out.1 8 st.pos)
      go_wp2_with fail
      refine cF.out.mono ?_
      rintro e wF ⟨⟨rF, rfl⟩, hqF⟩
      have QF := hide (Q1.out.trans hqF)
      clear cF hqF Q1
      have c4 : wF.cell? ⟨R, 4, none⟩ = some (.slice a st.l.length cap) := by simp [World.cell?, QF.out.1.blk]
      have cM2 := hide (rmust_any QF.out.1 wType hs)
      go_wp2_with fail
      refine cM2.out.mono ?_
      rintro e w2 ⟨⟨r2, rfl⟩, hq2⟩
      have Q2 := hide (QF.out.trans hq2)
      have cW := hide (rword_new hq2.1 [wFile, wLink, wDir] #[.string ⟨#[102, 105, 108, 101]⟩, .string ⟨#[108, 105, 110, 107]⟩, .string ⟨#[100, 105, 114]⟩] rfl 3 rfl w2.heap.size rfl (by simp) hs)
      have E3' : wordN s.data.toList [wFile, wLink, wDir] (mustN s.data.toList wType (st1.fail 8 st.pos)) = (st3, t) := E3.out
      rw [E3'] at cW
      clear cM2 c4 hq2 QF E3 E3'
      go_wp2_with fail
      refine cW.out.mono ?_
      rintro e w3 ⟨rfl, hq3⟩
      go_wp2
      go_end0
      exact ⟨⟨_, rfl⟩, (Q2.out.trans hq3).qq⟩
  · by_cases h30 : st.l.length = 30
    · have h5z : ¬ (5 : Int) < deep := by omega
      rw [decide_eq_false h5] at e3
      have h30z : (st.l.length : Int) = 30 := by omega
      have h30b : ((st.l.length : Int) == 30) = true := by rw [h30z]; rfl
      rw [decide_eq_true h30] at e3
      have E3 := hide e3
      clear e3 h30 h30z
      go_enter Tryd.func43, Tryd.ntmps43
      go_wp2_with fail
      refine cM1.out.mono ?_
      rintro e w1 ⟨⟨r, rfl⟩, hq1⟩
      have Q1 := hide hq1
      clear cM1 c1 hq1
      have c4 : w1.cell? ⟨R, 4, none⟩ = some (.slice a st.l.length cap) := by simp [World.cell?, Q1.out.1.blk]
      have cG := hide (rfail_any Q1.out.1 9 st.pos)
      go_wp2_with fail
      refine cG.out.mono ?_
      rintro e wG ⟨⟨rG, rfl⟩, hqG⟩
      have QG := hide (Q1.out.trans hqG)
      clear cG hqG Q1
      have cM2 := hide (rmust_any QG.out.1 wType hs)
      go_wp2_with fail
      refine cM2.out.mono ?_
      rintro e w2 ⟨⟨r2, rfl⟩, hq2⟩
      have Q2 := hide (QG.out.trans hq2)
      have cW := hide (rword_new hq2.1 [wFile, wLink, wDir] #[.string ⟨#[102, 105, 108, 101]⟩, .string ⟨#[108, 105, 110, 107]⟩, .string ⟨#[100, 105, 114]⟩] rfl 3 rfl w2.heap.size rfl (by simp) hs)
      have E3' : wordN s.data.toList [wFile, wLink, wDir] (mustN s.data.toList wType (st1.fail 9 st.pos)) = (st3, t) := E3.out
      rw [E3'] at cW
      clear cM2 c4 hq2 QG E3 E3'
      go_wp2_with fail
      refine cW.out.mono ?_
      rintro e w3 ⟨rfl, hq3⟩
      go_wp2
      go_end0
      exact ⟨⟨_, rfl⟩, (Q2.out.trans hq3).qq⟩
    · have h5z : ¬ (5 : Int) < deep := by omega
      rw [decide_eq_false h5] at e3
      have h30z : ¬ (st.l.length : Int) = 30 := by omega
      have h30b : ((st.l.length : Int) == 30) = false := beq_eq_false_iff_ne.2 h30z
      rw [decide_eq_false h30] at e3
      have E3 := hide e3
      clear e3 h30 h30z
      go_enter Tryd.func43, Tryd.ntmps43
      go_wp2_with fail
      refine cM1.out.mono ?_
      rintro e w1 ⟨⟨r, rfl⟩, hq1⟩
      have Q1 := hide hq1
      clear cM1 c1 hq1
      have c4 : w1.cell? ⟨R, 4, none⟩ = some (.slice a st.l.length cap) := by simp [World.cell?, Q1.out.1.blk]
      have cM2 := hide (rmust_any Q1.out.1 wType hs)
      go_wp2_with fail
      refine cM2.out.mono ?_
      rintro e w2 ⟨⟨r2, rfl⟩, hq2⟩
      have Q2 := hide (Q1.out.trans hq2)
      have cW := hide (rword_new hq2.1 [wFile, wLink, wDir] #[.string ⟨#[102, 105, 108, 101]⟩, .string ⟨#[108, 105, 110, 107]⟩, .string ⟨#[100, 105, 114]⟩] rfl 3 rfl w2.heap.size rfl (by simp) hs)
      have E3' : wordN s.data.toList [wFile, wLink, wDir] (mustN s.data.toList wType st1) = (st3, t) := E3.out
      rw [E3'] at cW
      clear cM2 c4 hq2 Q1 E3 E3'
      go_wp2_with fail
      refine cW.out.mono ?_
      rintro e w3 ⟨rfl, hq3⟩
      go_wp2
      go_end0
      exact ⟨⟨_, rfl⟩, (Q2.out.trans hq3).qq⟩
end Go.Proofs.YticfcjmlphhpgaaDoor
namespace Go.Proofs.YticfcjmlphhpgaaDoor
open Go.RowKit

set_option maxRecDepth 20000 in
set_option maxHeartbeats 2000000 in
theorem rnode_dir {B R : Nat} {w : World} {s : ByteArray} {v : Value} {st : Ns} (h : QR B R w s v st) (hs : s.size ≤ 50000000) (path : ByteArray) (deep : Nat)
    (hw : (wordN s.data.toList [wFile, wLink, wDir] (headN s.data.toList deep st)).2 = wDir) (f : Nat) (hD : DirC s f) (hf : s.size - st.pos < f) (hp : path.size ≤ st.pos) (hd : deep ≤ st.pos) :
    Calls Tryd.prog 43 #[.pointer (some ⟨R, 0, none⟩), .string path, .int .i64 deep] w fun e w' => (∃ r, e = .returned r) ∧ QQ B R w s ((fun z => dirN s.data.toList f path deep ⟨#[]⟩ (z.push ⟨path, 4, ⟨#[]⟩⟩)) (wordN s.data.toList [wFile, wLink, wDir] (headN s.data.toList deep st)).1) w' := by
  obtain ⟨i45, hi, hz0, hz1, hz2⟩ := info_parts Tryd.info45
  have he3 := word_some (may := [wFile, wLink, wDir]) (st := headN s.data.toList deep st) (by rw [hw]; decide)
  obtain ⟨he2, hg3⟩ := word_grow he3
  obtain ⟨_, hg2⟩ := head_grow he2
  obtain ⟨h5, h30, hhd⟩ := head_ok he2
  have hl3 := word_l s.data.toList [wFile, wLink, wDir] (headN s.data.toList deep st)
  rw [hhd] at hw he3 hg3 hg2 hl3 ⊢
  rw [must_l, must_l] at hl3
  obtain ⟨a, cap, rfl, hcap⟩ := own_slice h.nd
  have hllp := h.ll
  have cM1 := hide (rmust_any h wOpen hs)
  have c1 : w.cell? ⟨R, 1, none⟩ = some (.int .i64 st.pos) := by simp [World.cell?, h.blk]
  have h5z : ¬ (5 : Int) < deep := by omega
  have h30z : ¬ (st.l.length : Int) = 30 := by omega
  have h30b : ((st.l.length : Int) == 30) = false := beq_eq_false_iff_ne.2 h30z
  generalize e1 : mustN s.data.toList wOpen st = st1 at *
  generalize e2 : mustN s.data.toList wType st1 = st2 at *
  generalize e3 : wordN s.data.toList [wFile, wLink, wDir] st2 = WX at *
  obtain ⟨st3, t⟩ := WX
  simp only at hw he3 hg3 hl3 ⊢
  have E2 := hide e2
  have E3 := hide e3
  have tbf := list_ne (show ¬ t = wFile by rw [hw]; decide) _ file_list
  have tbl := list_ne (show ¬ t = wLink by rw [hw]; decide) _ link_list
  have tb := list_eq hw _ dir_list
  have hL3 := congrArg List.length hl3
  have hP : st3.l.length + 1 ≤ st3.pos := by omega
  have HD := hide hD
  clear h hw e1 e2 e3 hhd he2 h30 hl3 hL3 hD
  go_enter Tryd.func43, Tryd.ntmps43
  go_wp2_with fail
  refine cM1.out.mono ?_
  rintro e w1 ⟨⟨r, rfl⟩, hq1⟩
  have Q1 := hide hq1
  have c4 : w1.cell? ⟨R, 4, none⟩ = some (.slice a st.l.length cap) := by simp [World.cell?, hq1.1.blk]
  have cM2 := hide (rmust_any hq1.1 wType hs)
  rw [E2.out] at cM2
  clear cM1 c1 hq1
  go_wp2_with fail
  refine cM2.out.mono ?_
  rintro e w2 ⟨⟨r2, rfl⟩, hq2⟩
  have Q2 := hide (Q1.out.trans hq2)
  have cW := hide (rword_new hq2.1 [wFile, wLink, wDir] #[.string ⟨#[102, 105, 108, 101]⟩, .string ⟨#[108, 105, 110, 107]⟩, .string ⟨#[100, 105, 114]⟩] rfl 3 rfl w2.heap.size rfl (by simp) hs)
  rw [E3.out] at cW
  clear cM2 c4 hq2 Q1
  go_wp2_with fail
  refine cW.out.mono ?_
  rintro e w3 ⟨rfl, hq3⟩
  have Q3 := hide (Q2.out.trans hq3)
  clear cW hq3 Q2
  have O5 := hide Q3.out.1.nd
  have c45 : w3.cell? ⟨R, 4, none⟩ = some (.slice a st.l.length cap) := by simp [World.cell?, Q3.out.1.blk]
  have hrow5 := hide (fun e : some R = (Value.slice a st.l.length cap).ownBlock => Q3.out.1.row e.symm)
  have hle5 := Q3.out.1.le
  have hR5 := Q3.out.1.lt
  have hB5 := Q3.out.1.Bw
  go_wp2_with (at_builtin; refine wpList_append_own _ rfl (.tmp 97) (.tmp 100) 22 rfl B 45 i45 (.agg #[.string ⟨#[]⟩, .int .i64 0, .string ⟨#[]⟩]) 3 40 Tryd.underlying22 hi hz0 hz1 hz2 rfl (by decide) (.slice a st.l.length cap) st3.l.length (flat3 st3.l) rfl (O5.out.alloc _) ⟨w3.heap.size, 0, none⟩ 1 1 [.string path, .int .i64 4, .string ⟨#[]⟩] rfl rfl (cell_three_at _ _ _ _ _ _ rfl) (fun x hx => by simp at hx; rcases hx with rfl | rfl | rfl <;> rfl) (by unfold maxLen; omega) (by omega) (by simp; try omega) ?_; intro v6 w6 hown6 hgrow6 hat6; obtain ⟨g6, cap6, rfl, hcap6⟩ := own_form hown6 (by omega); have hR6 := hide ((hgrow6.block R (by simp; try omega) hrow5.out).trans (block_keep (w := w3) _ Q3.out.1.blk)); have c46 : w6.cell? ⟨R, 4, none⟩ = some (.slice a st.l.length cap) := (by simp [World.cell?, hR6.out]); have f46 : w6.frozen? ⟨R, 4, none⟩ = false := (by simp [World.frozen?, hR6.out]); obtain ⟨hR7, hB7, hK7⟩ := Q3.out.1.push ⟨path, 4, ⟨#[]⟩⟩ hown6 (((KT.refl [45] w3).alloc _).grown (O5.out.alloc _) hgrow6 (by decide)) (((Below.refl B w3).alloc hB5 _).grown hgrow6 (by simp; try omega) (fun k hk => (O5.out.lt k hk).1)) hP; have HR7 := hide hR7; have HB7 := hide hB7; have HK7 := hide hK7; clear hown6 hgrow6 hat6 hR7 hB7 hK7 hR6)
  generalize w6.setCell ⟨R, 4, none⟩ (.slice (some ⟨g6, 0, none⟩) (st3.l.length + 1) cap6) = W7 at HR7 HB7 HK7 ⊢
  have cC := hide (HD.out _ _ _ _ _ path deep HR7.out he3 (by show s.size - st3.pos < f; omega) (by show path.size ≤ st3.pos; omega) (by show deep ≤ st3.pos; omega))
  clear c46 f46 c45 HR7
  go_wp2_with fail
  refine cC.out.mono ?_
  rintro e w8 ⟨⟨r8, rfl⟩, hq8⟩
  go_wp2
  go_end0
  exact ⟨⟨_, rfl⟩, Q3.out.q ⟨hq8.1, HB7.out.trans hq8.2.1, HK7.out.trans hq8.2.2⟩⟩
end Go.Proofs.YticfcjmlphhpgaaDoor
namespace Go.Proofs.YticfcjmlphhpgaaDoor
open Go.RowKit

theorem rnode_of {s : ByteArray} (hs : s.size ≤ 50000000) {f : Nat} (hD : DirC s f) {B R : Nat} {w : World} {v : Value} {st : Ns} (h : QR B R w s v st) (path : ByteArray) (deep : Nat) (hdp : deep ≤ 100000000)
    (hl : st.e = 0 → s.size - st.pos < f ∧ path.size ≤ st.pos ∧ deep ≤ st.pos) :
    Calls Tryd.prog 43 #[.pointer (some ⟨R, 0, none⟩), .string path, .int .i64 deep] w fun e w' => (∃ r, e = .returned r) ∧ QQ B R w s (nodeN s.data.toList f path deep st) w' := by
  unfold nodeN nodeB kindN
  by_cases h1 : (wordN s.data.toList [wFile, wLink, wDir] (headN s.data.toList deep st)).2 = wFile
  · rw [if_pos h1]
    exact rnode_file h hs path deep h1
  · rw [if_neg h1]
    by_cases h2 : (wordN s.data.toList [wFile, wLink, wDir] (headN s.data.toList deep st)).2 = wLink
    · rw [if_pos h2]
      exact rnode_link h hs path deep h2
    · rw [if_neg h2]
      by_cases h3 : (wordN s.data.toList [wFile, wLink, wDir] (headN s.data.toList deep st)).2 = wDir
      · rw [if_pos h3]
        have he3 := word_some (may := [wFile, wLink, wDir]) (st := headN s.data.toList deep st) (by rw [h3]; decide)
        obtain ⟨a1, a2, a3⟩ := hl (head_grow (word_grow he3).1).1
        exact rnode_dir h hs path deep h3 f hD a1 a2 a3
      · rw [if_neg h3]
        exact rnode_none h hs path deep hdp h1 h2 h3
/-- Where the document's reader stands, read off its block. -/
def posIn (w : World) (R : Nat) : Nat := match w.cell? ⟨R, 1, none⟩ with
  | some (.int _ z) => z.toNat
  | _ => 0
theorem QR.posIn {B R : Nat} {w : World} {s : ByteArray} {v : Value} {st : Ns} (h : QR B R w s v st) : posIn w R = st.pos := by
  have c1 : w.cell? ⟨R, 1, none⟩ = some (.int .i64 st.pos) := by simp [World.cell?, h.blk]
  unfold Go.Proofs.YticfcjmlphhpgaaDoor.posIn
  rw [c1]
  simp
theorem QQ.same {B R : Nat} {w : World} {s : ByteArray} {v : Value} {st : Ns} (h : QR B R w s v st) : QQ B R w s st w := h.same.qq
theorem next_le {S : Bs} {m : Nat} {st : Ns} (h : st.pos ≤ S.length) : (nextN S m st).1.pos ≤ S.length := by
  unfold nextN
  split
  · exact h
  · split
    · rw [fail_pos]; exact h
    · rw [fail_pos]; exact h
    · rename_i hc
      have := (cutF_len hc).2.1
      rw [List.length_drop] at this
      show st.pos + _ ≤ _
      omega
theorem word_le {S : Bs} {may : List ByteArray} {st : Ns} (h : st.pos ≤ S.length) : (wordN S may st).1.pos ≤ S.length := by
  unfold wordN
  split
  · exact next_le h
  · rw [fail_pos]; exact next_le h
/-- The name of an entry, and up to its node. -/
theorem entry_e {S : Bs} {last : ByteArray} {st : Ns} (h : (entryN S last st).1.e = 0) : st.e = 0 ∧ st.pos + 8 + (entryN S last st).2.size ≤ (entryN S last st).1.pos := by
  unfold entryN nameN at h ⊢
  simp only at h ⊢
  obtain ⟨h1, g1⟩ := must_grow h
  obtain ⟨h2, _⟩ := failIf_live h1 (by decide)
  obtain ⟨h3, _⟩ := failIf_live h2 (by decide)
  obtain ⟨h4, g4⟩ := next_grow h3
  obtain ⟨h5, g5⟩ := must_grow h4
  obtain ⟨h6, g6⟩ := must_grow h5
  rw [(failIf_l _ _ _ _).2, (failIf_l _ _ _ _).2] at g1
  exact ⟨h6, by omega⟩
theorem head_mono (S : Bs) (d : Nat) (st : Ns) : st.pos ≤ (headN S d st).pos := by
  unfold headN
  have h1 := must_mono S wOpen st
  refine Nat.le_trans ?_ (must_mono S wType _)
  rw [(failIf_l _ _ _ _).2, (failIf_l _ _ _ _).2]
  exact h1
theorem data_mono (S : Bs) (path : ByteArray) (k : Int) (st : Ns) : st.pos ≤ (dataN S path k st).pos := by
  unfold dataN
  exact Nat.le_trans (next_mono S 100 st) (must_mono S wClose ((nextN S 100 st).1.push ⟨path, k, (nextN S 100 st).2⟩))
theorem file_mono (S : Bs) (path : ByteArray) (st : Ns) : st.pos ≤ (fileN S path st).pos := by
  unfold fileN
  have h1 := word_mono S [wExec, wData] st
  split
  · exact Nat.le_trans (Nat.le_trans (Nat.le_trans h1 (must_mono S wNone _)) (must_mono S wData _)) (data_mono _ _ _ _)
  · exact Nat.le_trans h1 (data_mono _ _ _ _)
theorem link_mono (S : Bs) (path : ByteArray) (st : Ns) : st.pos ≤ (linkN S path st).pos := by
  unfold linkN leadN
  have h1 := must_mono S wTo st
  have h2 := next_mono S 100 (mustN S wTo st)
  refine Nat.le_trans ?_ (must_mono S wClose _)
  show st.pos ≤ (Ns.failIf _ _ _ _).pos
  rw [(failIf_l _ _ _ _).2]
  omega
theorem entry_mono (S : Bs) (last : ByteArray) (st : Ns) : st.pos ≤ (entryN S last st).1.pos := by
  unfold entryN nameN
  have h1 := must_mono S wOpen st
  have h2 := must_mono S wName (mustN S wOpen st)
  have h3 := next_mono S 48 (mustN S wName (mustN S wOpen st))
  refine Nat.le_trans ?_ (must_mono S wNode _)
  rw [(failIf_l _ _ _ _).2, (failIf_l _ _ _ _).2]
  omega
theorem nodeB_mono (S : Bs) (D : ByteArray → Nat → Ns → Ns) (hD : ∀ p d x, x.pos ≤ (D p d x).pos) (path : ByteArray) (deep : Nat) (st : Ns) : st.pos ≤ (nodeB S D path deep st).pos := by
  unfold nodeB kindN
  have h1 := Nat.le_trans (head_mono S deep st) (word_mono S [wFile, wLink, wDir] (headN S deep st))
  split
  · exact Nat.le_trans h1 (file_mono _ _ _)
  · split
    · exact Nat.le_trans h1 (link_mono _ _ _)
    · split
      · exact Nat.le_trans h1 (hD _ _ (Ns.push _ _))
      · exact h1
theorem dirN_mono (S : Bs) : ∀ (f : Nat) (path : ByteArray) (deep : Nat) (last : ByteArray) (st : Ns), st.pos ≤ (dirN S f path deep last st).pos
  | 0, _, _, _, _ => Nat.le_refl _
  | f + 1, path, deep, last, st => by
    have h1 := word_mono S [wEntry, wClose] st
    by_cases hw : (wordN S [wEntry, wClose] st).2 = wEntry
    · rw [dirN_entry _ _ _ _ _ _ hw]
      refine Nat.le_trans ?_ (dirN_mono S f _ _ _ _)
      refine Nat.le_trans ?_ (must_mono S wClose _)
      unfold nodeN
      refine Nat.le_trans ?_ (nodeB_mono S _ (fun p d x => dirN_mono S f p d _ x) _ _ _)
      exact Nat.le_trans h1 (entry_mono _ _ _)
    · rw [dirN_end _ _ _ _ _ _ hw]; exact h1
theorem nodeN_mono (S : Bs) (f : Nat) (path : ByteArray) (deep : Nat) (st : Ns) : st.pos ≤ (nodeN S f path deep st).pos := nodeB_mono S _ (fun p d x => dirN_mono S f p d _ x) _ _ _
theorem dir_room {S : Bs} {n g : Nat} {path inner : ByteArray} {deep : Nat} {st9 : Ns} (hz : (mustN S wClose (nodeN S g inner (deep + 1) st9)).e = 0) (HN : st9.e = 0 → n - st9.pos < g ∧ inner.size ≤ st9.pos ∧ deep + 1 ≤ st9.pos) (hp : path.size ≤ st9.pos) :
    n - (mustN S wClose (nodeN S g inner (deep + 1) st9)).pos < g ∧ path.size ≤ (mustN S wClose (nodeN S g inner (deep + 1) st9)).pos ∧ deep ≤ (mustN S wClose (nodeN S g inner (deep + 1) st9)).pos := by
  obtain ⟨h1, h2⟩ := must_grow hz
  have h3 := nodeN_mono S g inner (deep + 1) st9
  have h9 : st9.e = 0 := by
    by_cases h : st9.e = 0
    · exact h
    · unfold nodeN at h1
      rw [node_dead h] at h1
      exact absurd h1 h
  have := HN h9
  omega
theorem dir_less {S : Bs} {n g : Nat} {inner : ByteArray} {deep : Nat} {st2 st9 : Ns} (h : st2.pos + 8 ≤ st9.pos) (hn : st2.pos + 8 ≤ n) : n - (mustN S wClose (nodeN S g inner (deep + 1) st9)).pos < n - st2.pos := by
  have h3 := nodeN_mono S g inner (deep + 1) st9
  have h4 := must_mono S wClose (nodeN S g inner (deep + 1) st9)
  omega
theorem prefixIn_nil (n : ByteArray) (p : ByteArray) (h : p.data.toList = []) : prefixIn p ++ n = n := by
  unfold prefixIn
  rw [if_pos h]
  exact ByteArray.empty_append

set_option maxRecDepth 20000 in
set_option maxHeartbeats 4000000 in
theorem rdir_of {s : ByteArray} (hs : s.size ≤ 50000000) (f : Nat) (IH : ∀ g, g < f → DirC s g) : DirC s f := by
  intro B R w v st path deep h he hf hp hd
  have hle := h.le
  obtain ⟨T, hT⟩ : ∃ T, dirN s.data.toList f path deep ⟨#[]⟩ st = T := ⟨_, rfl⟩
  rw [hT]
  have HT := hide hT
  have H := hide h
  have HI := hide IH
  clear hT h IH
  go_enter Tryd.func63, Tryd.ntmps63
  go_wp2
  go_loopw [6, 7, 8, 9] (fun l _ _ _ w2 => ∃ (last : ByteArray) (g : Nat) (st2 : Ns) (v2 : Value), l = .string last ∧ Hid (g ≤ f ∧ (st2.e = 0 → s.size - st2.pos < g ∧ path.size ≤ st2.pos ∧ deep ≤ st2.pos)) ∧ Hid (QR B R w2 s v2 st2) ∧ Hid (QQ B R w s st2 w2) ∧ Hid (dirN s.data.toList g path deep last st2 = T)) (fun _ _ _ _ w2 => s.size - posIn w2 R)
  case atStart => exact ⟨⟨#[]⟩, f, st, v, rfl, hide ⟨Nat.le_refl _, fun _ => ⟨hf, hp, hd⟩⟩, H, hide (QQ.same H.out), HT⟩
  case round =>
    obtain ⟨last, g, st2, v2, rfl, HG, H2, HQ, HT2⟩ := hrel
    have hG := HG.out
    have hQ2le := H2.out.le
    have cW := hide (rword_new H2.out [wEntry, wClose] #[.string ⟨#[101, 110, 116, 114, 121]⟩, .string ⟨#[41]⟩] rfl 2 rfl wr.heap.size rfl (by simp) hs)
    by_cases hw : (wordN s.data.toList [wEntry, wClose] st2).2 = wEntry
    · have he3 := word_some (may := [wEntry, wClose]) (st := st2) (by rw [hw]; decide)
      obtain ⟨he2, hg3⟩ := word_grow he3
      obtain ⟨hG1, hG2, hG3⟩ := hG.2 he2
      have hle3 := word_le (may := [wEntry, wClose]) (st := st2) (S := s.data.toList) (by simpa using hQ2le)
      have hsl : s.data.toList.length = s.size := by simp
      rw [hsl] at hle3
      obtain ⟨g, rfl⟩ : ∃ k, g = k + 1 := ⟨g - 1, by omega⟩
      have hT3 := HT2.out
      rw [dirN_entry _ _ _ _ _ _ hw] at hT3
      have hE := @entry_e s.data.toList last (wordN s.data.toList [wEntry, wClose] st2).1
      generalize e3 : wordN s.data.toList [wEntry, wClose] st2 = WX at *
      obtain ⟨st3, t⟩ := WX
      simp only at hw he3 hg3 hT3 hE hle3
      have tb := list_eq hw _ entry_list
      unfold entryN nameN at hT3 hE
      have hm4 := must_mono s.data.toList wOpen st3
      generalize e4 : mustN s.data.toList wOpen st3 = st4 at *
      have hm5 := must_mono s.data.toList wName st4
      generalize e5 : mustN s.data.toList wName st4 = st5 at *
      have hm6 := next_mono s.data.toList 48 st5
      have hd6 := next_size s.data.toList 48 st5
      generalize e6 : nextN s.data.toList 48 st5 = NX at *
      obtain ⟨st6, d⟩ := NX
      simp only at hm6 hd6 hT3 hE
      generalize eN : isNameB d.data.toList = bN at *
      generalize e7 : st6.failIf (!bN) 6 st5.pos = st7 at *
      generalize eA : notAbove d last = bA at *
      generalize e8 : st7.failIf bA 7 st5.pos = st8 at *
      have hm9 := must_mono s.data.toList wNode st8
      generalize e9 : mustN s.data.toList wNode st8 = st9 at *
      have hp7 : st7.pos = st6.pos := by rw [← e7]; exact (failIf_l _ _ _ _).2
      have hp8 : st8.pos = st7.pos := by rw [← e8]; exact (failIf_l _ _ _ _).2
      have hN9 : st9.e = 0 → s.size - st9.pos < g ∧ (prefixIn path ++ d).size ≤ st9.pos ∧ deep + 1 ≤ st9.pos := fun h9 => by
        have := (hE h9).2
        have hps : (prefixIn path).size ≤ path.size + 1 := by
          unfold prefixIn
          split
          · exact Nat.zero_le _
          · rw [ByteArray.size_append]; exact Nat.le_refl _
        rw [ByteArray.size_append]
        omega
      have hm29 : st2.pos + 8 ≤ st9.pos := by omega
      have hs23 : st2.pos + 8 ≤ s.size := by omega
      have hp3 : path.size ≤ st9.pos := by omega
      have HT3 := hide hT3
      have HN9 := hide hN9
      have E4 := hide e4
      have E5 := hide e5
      have E6 := hide e6
      have E7 := hide e7
      have E8 := hide e8
      have E9 := hide e9
      have HIg := hide (HI.out g (by omega))
      have hgf := hG.1
      clear hG hE hT3 hN9 e3 e4 e5 e6 e7 e8 e9 HT2 HT HG hw hp7 hp8 hsl HI
      go_wp2_with fail
      refine cW.out.mono ?_
      rintro e w3 ⟨rfl, hq3⟩
      have Q3 := hide hq3
      have c4' := hide (rmust_any hq3.1 wOpen hs)
      rw [E4.out] at c4'
      clear cW hq3
      go_wp2_with fail
      refine c4'.out.mono ?_
      rintro e w4 ⟨⟨r4, rfl⟩, hq4⟩
      have Q4 := hide (Q3.out.trans hq4)
      have c5' := hide (rmust_any hq4.1 wName hs)
      rw [E5.out] at c5'
      clear c4' hq4 Q3
      go_wp2_with fail
      refine c5'.out.mono ?_
      rintro e w5 ⟨⟨r5, rfl⟩, hq5⟩
      have Q5 := hide (Q4.out.trans hq5)
      have c6' := hide (rnext_any hq5.1 48 (by omega) hs)
      rw [E6.out] at c6'
      have cpos : w5.cell? ⟨R, 1, none⟩ = some (.int .i64 st5.pos) := by simp [World.cell?, hq5.1.blk]
      clear c5' hq5 Q4
      go_wp2_with fail
      refine c6'.out.mono ?_
      rintro e w6 ⟨rfl, hq6⟩
      have Q6 := hide (Q5.out.trans hq6)
      have cNm := hide (Name_any d w6 (by omega))
      rw [eN] at cNm
      clear c6' hq6 Q5 cpos
      go_wp2_with fail
      refine cNm.out.mono ?_
      rintro e w6b ⟨rfl, rfl⟩
      clear cNm
      unfold notAbove at eA
      cases bN
      · cases bA
        · have E7' : st6.fail 6 st5.pos = st7 := E7.out
          have cF := hide (rfail_any Q6.out.1 6 st5.pos)
          rw [E7'] at cF
          go_wp2_with fail
          refine cF.out.mono ?_
          rintro e w7 ⟨⟨r7, rfl⟩, hq7⟩
          have Q7 := hide (Q6.out.trans hq7)
          clear cF hq7 Q6 E7 E7'
          have E8' : st7 = st8 := E8.out
          have Q8 := Q7
          rw [E8'] at Q8
          clear Q7 E8 E8'
          have cM := hide (rmust_any Q8.out.1 wNode hs)
          rw [E9.out] at cM
          go_wp2_with fail
          refine cM.out.mono ?_
          rintro e w9 ⟨⟨r9, rfl⟩, hq9⟩
          have Q9 := hide (Q8.out.trans hq9)
          clear cM hq9 Q8
          by_cases hpe : path.data.toList = []
          · have hpb : path.toList.isEmpty = true := by rw [ByteArray.toList_eq, hpe]; rfl
            have hpd : prefixIn path ++ d = d := prefixIn_nil d path hpe
            have HN := HN9.out
            have HT4 := HT3.out
            rw [hpd] at HN HT4
            have cK := hide (rnode_of hs HIg.out Q9.out.1 d (deep + 1) (by omega) HN)
            rw [show ((deep + 1 : Nat) : Int) = (deep : Int) + 1 by omega] at cK
            have HT5 := hide HT4
            have HN5 := hide HN
            clear HN HT4 HT3 HN9 hpd hpe
            go_wp2_with fail
            refine cK.out.mono ?_
            rintro e wK ⟨⟨rK, rfl⟩, hqK⟩
            have QK := hide (Q9.out.q hqK)
            obtain ⟨vK, hvK⟩ := hqK.1
            have cC := hide (rmust_any hvK wClose hs)
            clear cK hqK hvK Q9
            go_wp2_with fail
            refine cC.out.mono ?_
            rintro e wC ⟨⟨rC, rfl⟩, hqC⟩
            go_wp2
            go_roundw
            case rel => exact ⟨d, g, _, vK, rfl, hide ⟨by omega, fun hz => dir_room hz HN5.out hp3⟩, hide hqC.1, hide (HQ.out.trans (QK.out.trans hqC.qq)), HT5⟩
            case measure =>
              rw [hqC.1.posIn, H2.out.posIn]
              exact dir_less hm29 hs23
          · have hpb : path.toList.isEmpty = false := by rw [ByteArray.toList_eq]; cases hh : path.data.toList with | nil => exact absurd hh hpe | cons a t => rfl
            have hpd : prefixIn path = path ++ ⟨#[47]⟩ := by simp only [prefixIn, if_neg hpe]
            have HN := HN9.out
            have HT4 := HT3.out
            rw [hpd] at HN HT4
            have cK := hide (rnode_of hs HIg.out Q9.out.1 (path ++ ⟨#[47]⟩ ++ d) (deep + 1) (by omega) HN)
            rw [show ((deep + 1 : Nat) : Int) = (deep : Int) + 1 by omega] at cK
            have HT5 := hide HT4
            have HN5 := hide HN
            clear HN HT4 HT3 HN9 hpd hpe
            go_wp2_with fail
            refine cK.out.mono ?_
            rintro e wK ⟨⟨rK, rfl⟩, hqK⟩
            have QK := hide (Q9.out.q hqK)
            obtain ⟨vK, hvK⟩ := hqK.1
            have cC := hide (rmust_any hvK wClose hs)
            clear cK hqK hvK Q9
            go_wp2_with fail
            refine cC.out.mono ?_
            rintro e wC ⟨⟨rC, rfl⟩, hqC⟩
            go_wp2
            go_roundw
            case rel => exact ⟨d, g, _, vK, rfl, hide ⟨by omega, fun hz => dir_room hz HN5.out hp3⟩, hide hqC.1, hide (HQ.out.trans (QK.out.trans hqC.qq)), HT5⟩
            case measure =>
              rw [hqC.1.posIn, H2.out.posIn]
              exact dir_less hm29 hs23
        · have E7' : st6.fail 6 st5.pos = st7 := E7.out
          have cF := hide (rfail_any Q6.out.1 6 st5.pos)
          rw [E7'] at cF
          go_wp2_with fail
          refine cF.out.mono ?_
          rintro e w7 ⟨⟨r7, rfl⟩, hq7⟩
          have Q7 := hide (Q6.out.trans hq7)
          clear cF hq7 Q6 E7 E7'
          have E8' : st7.fail 7 st5.pos = st8 := E8.out
          have cG := hide (rfail_any Q7.out.1 7 st5.pos)
          rw [E8'] at cG
          go_wp2_with fail
          refine cG.out.mono ?_
          rintro e w8 ⟨⟨r8, rfl⟩, hq8⟩
          have Q8 := hide (Q7.out.trans hq8)
          clear cG hq8 Q7 E8 E8'
          have cM := hide (rmust_any Q8.out.1 wNode hs)
          rw [E9.out] at cM
          go_wp2_with fail
          refine cM.out.mono ?_
          rintro e w9 ⟨⟨r9, rfl⟩, hq9⟩
          have Q9 := hide (Q8.out.trans hq9)
          clear cM hq9 Q8
          by_cases hpe : path.data.toList = []
          · have hpb : path.toList.isEmpty = true := by rw [ByteArray.toList_eq, hpe]; rfl
            have hpd : prefixIn path ++ d = d := prefixIn_nil d path hpe
            have HN := HN9.out
            have HT4 := HT3.out
            rw [hpd] at HN HT4
            have cK := hide (rnode_of hs HIg.out Q9.out.1 d (deep + 1) (by omega) HN)
            rw [show ((deep + 1 : Nat) : Int) = (deep : Int) + 1 by omega] at cK
            have HT5 := hide HT4
            have HN5 := hide HN
            clear HN HT4 HT3 HN9 hpd hpe
            go_wp2_with fail
            refine cK.out.mono ?_
            rintro e wK ⟨⟨rK, rfl⟩, hqK⟩
            have QK := hide (Q9.out.q hqK)
            obtain ⟨vK, hvK⟩ := hqK.1
            have cC := hide (rmust_any hvK wClose hs)
            clear cK hqK hvK Q9
            go_wp2_with fail
            refine cC.out.mono ?_
            rintro e wC ⟨⟨rC, rfl⟩, hqC⟩
            go_wp2
            go_roundw
            case rel => exact ⟨d, g, _, vK, rfl, hide ⟨by omega, fun hz => dir_room hz HN5.out hp3⟩, hide hqC.1, hide (HQ.out.trans (QK.out.trans hqC.qq)), HT5⟩
            case measure =>
              rw [hqC.1.posIn, H2.out.posIn]
              exact dir_less hm29 hs23
          · have hpb : path.toList.isEmpty = false := by rw [ByteArray.toList_eq]; cases hh : path.data.toList with | nil => exact absurd hh hpe | cons a t => rfl
            have hpd : prefixIn path = path ++ ⟨#[47]⟩ := by simp only [prefixIn, if_neg hpe]
            have HN := HN9.out
            have HT4 := HT3.out
            rw [hpd] at HN HT4
            have cK := hide (rnode_of hs HIg.out Q9.out.1 (path ++ ⟨#[47]⟩ ++ d) (deep + 1) (by omega) HN)
            rw [show ((deep + 1 : Nat) : Int) = (deep : Int) + 1 by omega] at cK
            have HT5 := hide HT4
            have HN5 := hide HN
            clear HN HT4 HT3 HN9 hpd hpe
            go_wp2_with fail
            refine cK.out.mono ?_
            rintro e wK ⟨⟨rK, rfl⟩, hqK⟩
            have QK := hide (Q9.out.q hqK)
            obtain ⟨vK, hvK⟩ := hqK.1
            have cC := hide (rmust_any hvK wClose hs)
            clear cK hqK hvK Q9
            go_wp2_with fail
            refine cC.out.mono ?_
            rintro e wC ⟨⟨rC, rfl⟩, hqC⟩
            go_wp2
            go_roundw
            case rel => exact ⟨d, g, _, vK, rfl, hide ⟨by omega, fun hz => dir_room hz HN5.out hp3⟩, hide hqC.1, hide (HQ.out.trans (QK.out.trans hqC.qq)), HT5⟩
            case measure =>
              rw [hqC.1.posIn, H2.out.posIn]
              exact dir_less hm29 hs23
      · cases bA
        · have E7' : st6 = st7 := E7.out
          have Q7 := Q6
          rw [E7'] at Q7
          clear Q6 E7 E7'
          have E8' : st7 = st8 := E8.out
          have Q8 := Q7
          rw [E8'] at Q8
          clear Q7 E8 E8'
          have cM := hide (rmust_any Q8.out.1 wNode hs)
          rw [E9.out] at cM
          go_wp2_with fail
          refine cM.out.mono ?_
          rintro e w9 ⟨⟨r9, rfl⟩, hq9⟩
          have Q9 := hide (Q8.out.trans hq9)
          clear cM hq9 Q8
          by_cases hpe : path.data.toList = []
          · have hpb : path.toList.isEmpty = true := by rw [ByteArray.toList_eq, hpe]; rfl
            have hpd : prefixIn path ++ d = d := prefixIn_nil d path hpe
            have HN := HN9.out
            have HT4 := HT3.out
            rw [hpd] at HN HT4
            have cK := hide (rnode_of hs HIg.out Q9.out.1 d (deep + 1) (by omega) HN)
            rw [show ((deep + 1 : Nat) : Int) = (deep : Int) + 1 by omega] at cK
            have HT5 := hide HT4
            have HN5 := hide HN
            clear HN HT4 HT3 HN9 hpd hpe
            go_wp2_with fail
            refine cK.out.mono ?_
            rintro e wK ⟨⟨rK, rfl⟩, hqK⟩
            have QK := hide (Q9.out.q hqK)
            obtain ⟨vK, hvK⟩ := hqK.1
            have cC := hide (rmust_any hvK wClose hs)
            clear cK hqK hvK Q9
            go_wp2_with fail
            refine cC.out.mono ?_
            rintro e wC ⟨⟨rC, rfl⟩, hqC⟩
            go_wp2
            go_roundw
            case rel => exact ⟨d, g, _, vK, rfl, hide ⟨by omega, fun hz => dir_room hz HN5.out hp3⟩, hide hqC.1, hide (HQ.out.trans (QK.out.trans hqC.qq)), HT5⟩
            case measure =>
              rw [hqC.1.posIn, H2.out.posIn]
              exact dir_less hm29 hs23
          · have hpb : path.toList.isEmpty = false := by rw [ByteArray.toList_eq]; cases hh : path.data.toList with | nil => exact absurd hh hpe | cons a t => rfl
            have hpd : prefixIn path = path ++ ⟨#[47]⟩ := by simp only [prefixIn, if_neg hpe]
            have HN := HN9.out
            have HT4 := HT3.out
            rw [hpd] at HN HT4
            have cK := hide (rnode_of hs HIg.out Q9.out.1 (path ++ ⟨#[47]⟩ ++ d) (deep + 1) (by omega) HN)
            rw [show ((deep + 1 : Nat) : Int) = (deep : Int) + 1 by omega] at cK
            have HT5 := hide HT4
            have HN5 := hide HN
            clear HN HT4 HT3 HN9 hpd hpe
            go_wp2_with fail
            refine cK.out.mono ?_
            rintro e wK ⟨⟨rK, rfl⟩, hqK⟩
            have QK := hide (Q9.out.q hqK)
            obtain ⟨vK, hvK⟩ := hqK.1
            have cC := hide (rmust_any hvK wClose hs)
            clear cK hqK hvK Q9
            go_wp2_with fail
            refine cC.out.mono ?_
            rintro e wC ⟨⟨rC, rfl⟩, hqC⟩
            go_wp2
            go_roundw
            case rel => exact ⟨d, g, _, vK, rfl, hide ⟨by omega, fun hz => dir_room hz HN5.out hp3⟩, hide hqC.1, hide (HQ.out.trans (QK.out.trans hqC.qq)), HT5⟩
            case measure =>
              rw [hqC.1.posIn, H2.out.posIn]
              exact dir_less hm29 hs23
        · have E7' : st6 = st7 := E7.out
          have Q7 := Q6
          rw [E7'] at Q7
          clear Q6 E7 E7'
          have E8' : st7.fail 7 st5.pos = st8 := E8.out
          have cG := hide (rfail_any Q7.out.1 7 st5.pos)
          rw [E8'] at cG
          go_wp2_with fail
          refine cG.out.mono ?_
          rintro e w8 ⟨⟨r8, rfl⟩, hq8⟩
          have Q8 := hide (Q7.out.trans hq8)
          clear cG hq8 Q7 E8 E8'
          have cM := hide (rmust_any Q8.out.1 wNode hs)
          rw [E9.out] at cM
          go_wp2_with fail
          refine cM.out.mono ?_
          rintro e w9 ⟨⟨r9, rfl⟩, hq9⟩
          have Q9 := hide (Q8.out.trans hq9)
          clear cM hq9 Q8
          by_cases hpe : path.data.toList = []
          · have hpb : path.toList.isEmpty = true := by rw [ByteArray.toList_eq, hpe]; rfl
            have hpd : prefixIn path ++ d = d := prefixIn_nil d path hpe
            have HN := HN9.out
            have HT4 := HT3.out
            rw [hpd] at HN HT4
            have cK := hide (rnode_of hs HIg.out Q9.out.1 d (deep + 1) (by omega) HN)
            rw [show ((deep + 1 : Nat) : Int) = (deep : Int) + 1 by omega] at cK
            have HT5 := hide HT4
            have HN5 := hide HN
            clear HN HT4 HT3 HN9 hpd hpe
            go_wp2_with fail
            refine cK.out.mono ?_
            rintro e wK ⟨⟨rK, rfl⟩, hqK⟩
            have QK := hide (Q9.out.q hqK)
            obtain ⟨vK, hvK⟩ := hqK.1
            have cC := hide (rmust_any hvK wClose hs)
            clear cK hqK hvK Q9
            go_wp2_with fail
            refine cC.out.mono ?_
            rintro e wC ⟨⟨rC, rfl⟩, hqC⟩
            go_wp2
            go_roundw
            case rel => exact ⟨d, g, _, vK, rfl, hide ⟨by omega, fun hz => dir_room hz HN5.out hp3⟩, hide hqC.1, hide (HQ.out.trans (QK.out.trans hqC.qq)), HT5⟩
            case measure =>
              rw [hqC.1.posIn, H2.out.posIn]
              exact dir_less hm29 hs23
          · have hpb : path.toList.isEmpty = false := by rw [ByteArray.toList_eq]; cases hh : path.data.toList with | nil => exact absurd hh hpe | cons a t => rfl
            have hpd : prefixIn path = path ++ ⟨#[47]⟩ := by simp only [prefixIn, if_neg hpe]
            have HN := HN9.out
            have HT4 := HT3.out
            rw [hpd] at HN HT4
            have cK := hide (rnode_of hs HIg.out Q9.out.1 (path ++ ⟨#[47]⟩ ++ d) (deep + 1) (by omega) HN)
            rw [show ((deep + 1 : Nat) : Int) = (deep : Int) + 1 by omega] at cK
            have HT5 := hide HT4
            have HN5 := hide HN
            clear HN HT4 HT3 HN9 hpd hpe
            go_wp2_with fail
            refine cK.out.mono ?_
            rintro e wK ⟨⟨rK, rfl⟩, hqK⟩
            have QK := hide (Q9.out.q hqK)
            obtain ⟨vK, hvK⟩ := hqK.1
            have cC := hide (rmust_any hvK wClose hs)
            clear cK hqK hvK Q9
            go_wp2_with fail
            refine cC.out.mono ?_
            rintro e wC ⟨⟨rC, rfl⟩, hqC⟩
            go_wp2
            go_roundw
            case rel => exact ⟨d, g, _, vK, rfl, hide ⟨by omega, fun hz => dir_room hz HN5.out hp3⟩, hide hqC.1, hide (HQ.out.trans (QK.out.trans hqC.qq)), HT5⟩
            case measure =>
              rw [hqC.1.posIn, H2.out.posIn]
              exact dir_less hm29 hs23
    · have hT3 : (wordN s.data.toList [wEntry, wClose] st2).1 = T := by
        cases g with
        | zero =>
          have h0 : st2.e ≠ 0 := fun e => by have := (hG.2 e).1; omega
          rw [word_dead h0]; exact HT2.out
        | succ g => rw [← dirN_end _ _ _ _ _ _ hw]; exact HT2.out
      generalize e3 : wordN s.data.toList [wEntry, wClose] st2 = WX at *
      obtain ⟨st3, t⟩ := WX
      simp only at hw hT3
      subst hT3
      have tb := list_ne hw _ entry_list
      clear hw HT HT2 e3
      go_wp2_with fail
      refine cW.out.mono ?_
      rintro e w3 ⟨rfl, hq3⟩
      go_wp2
      go_end0
      exact ⟨⟨_, rfl⟩, HQ.out.trans hq3.qq⟩
end Go.Proofs.YticfcjmlphhpgaaDoor
