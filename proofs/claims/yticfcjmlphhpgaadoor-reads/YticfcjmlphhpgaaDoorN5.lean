/-
  WALKS of the document's reader, 3: a node.
-/
import Derived.Test.YticfcjmlphhpgaaDoorN3
import Derived.Test.YticfcjmlphhpgaaDoorW9
namespace Go.Proofs.YticfcjmlphhpgaaDoor
open Go.RowKit

/-! how far it is -/
theorem fail_pos (st : Ns) (e : Int) (p : Nat) : (st.fail e p).pos = st.pos := (fail_l st e p).2
theorem fail_live {st : Ns} {e : Int} {p : Nat} (hne : e ≠ 0) : (st.fail e p).e ≠ 0 := by unfold Ns.fail; split; exact hne; assumption
theorem failIf_live {st : Ns} {c : Bool} {e : Int} {p : Nat} (h : (st.failIf c e p).e = 0) (hne : e ≠ 0) : st.e = 0 ∧ c = false := by
  unfold Ns.failIf at h
  cases c with
  | true => exact absurd h (fail_live hne)
  | false => exact ⟨h, rfl⟩
theorem next_size (s : Bs) (m : Nat) (st : Ns) : (nextN s m st).2.size ≤ m := by
  unfold nextN
  split
  · exact Nat.zero_le _
  · split
    · exact Nat.zero_le _
    · exact Nat.zero_le _
    · rename_i hc
      have := (cutF_len hc).2.2.2
      simpa [ByteArray.size] using this
theorem next_mono (s : Bs) (m : Nat) (st : Ns) : st.pos ≤ (nextN s m st).1.pos := by
  unfold nextN
  split
  · exact Nat.le_refl _
  · split
    · rw [fail_pos]; exact Nat.le_refl _
    · rw [fail_pos]; exact Nat.le_refl _
    · exact Nat.le_add_right _ _
theorem next_grow {s : Bs} {m : Nat} {st : Ns} (h : (nextN s m st).1.e = 0) : st.e = 0 ∧ st.pos + 8 + (nextN s m st).2.size ≤ (nextN s m st).1.pos := by
  unfold nextN at h ⊢
  split at h
  · rename_i he; exact absurd h he
  · rename_i he
    have he : st.e = 0 := by simpa using he
    rw [if_neg (by simp [he])]
    refine ⟨he, ?_⟩
    split at h
    · exact absurd h (fail_live (by decide))
    · rename_i hc; exact absurd h (fail_live (cut_bad hc))
    · rename_i hc
      have := (cutF_len hc).2.2.1
      simp only [ByteArray.size]
      simp
      omega
theorem word_mono (s : Bs) (may : List ByteArray) (st : Ns) : st.pos ≤ (wordN s may st).1.pos := by
  unfold wordN
  split
  · exact next_mono _ _ _
  · rw [fail_pos]; exact next_mono _ _ _
theorem word_grow {s : Bs} {may : List ByteArray} {st : Ns} (h : (wordN s may st).1.e = 0) : st.e = 0 ∧ st.pos + 8 ≤ (wordN s may st).1.pos := by
  unfold wordN at h ⊢
  split at h
  · rename_i hc
    rw [if_pos hc]
    have := next_grow h
    exact ⟨this.1, by omega⟩
  · exact absurd h (fail_live (by decide))
theorem word_some {s : Bs} {may : List ByteArray} {st : Ns} (h : (wordN s may st).2 ≠ ⟨#[]⟩) : (wordN s may st).1.e = 0 := by
  unfold wordN at h ⊢
  split at h
  · rename_i hc; rw [if_pos hc]; exact hc.2
  · exact absurd rfl h
theorem must_mono (s : Bs) (x : ByteArray) (st : Ns) : st.pos ≤ (mustN s x st).pos := word_mono _ _ _
theorem must_grow {s : Bs} {x : ByteArray} {st : Ns} (h : (mustN s x st).e = 0) : st.e = 0 ∧ st.pos + 8 ≤ (mustN s x st).pos := word_grow h
theorem head_grow {s : Bs} {d : Nat} {st : Ns} (h : (headN s d st).e = 0) : st.e = 0 ∧ st.pos + 16 ≤ (headN s d st).pos := by
  unfold headN at h ⊢
  obtain ⟨h1, h2⟩ := must_grow h
  obtain ⟨h3, _⟩ := failIf_live h1 (by decide)
  obtain ⟨h4, _⟩ := failIf_live h3 (by decide)
  obtain ⟨h5, h6⟩ := must_grow h4
  rw [(failIf_l _ _ _ _).2, (failIf_l _ _ _ _).2] at h2
  exact ⟨h5, by omega⟩

/-- What a call leaves that may put nodes behind the others. -/
def QQ (B R : Nat) (w : World) (s : ByteArray) (st : Ns) (w' : World) : Prop := (∃ v, QR B R w' s v st) ∧ Below B w w' ∧ KT [56, 45] w w'
theorem QP.qq {B R : Nat} {w w' : World} {s : ByteArray} {v : Value} {st : Ns} (h : QP B R w s v st w') : QQ B R w s st w' := ⟨⟨v, h.1⟩, h.2.1, h.2.2.mono (by decide)⟩
theorem QQ.trans {B R : Nat} {w w1 w2 : World} {s : ByteArray} {st1 st2 : Ns} (h : QQ B R w s st1 w1) (k : QQ B R w1 s st2 w2) : QQ B R w s st2 w2 := ⟨k.1, h.2.1.trans k.2.1, h.2.2.trans k.2.2⟩
theorem QP.q {B R : Nat} {w w1 w2 : World} {s : ByteArray} {v : Value} {st1 st2 : Ns} (h : QP B R w s v st1 w1) (k : QQ B R w1 s st2 w2) : QQ B R w s st2 w2 := h.qq.trans k
theorem QR.push {B R : Nat} {w w3 : World} {s : ByteArray} {v v' : Value} {st : Ns} (h : QR B R w s v st) (n : Nd) (hown : w3.ownsRow B 45 3 v' (st.l.length + 1) (flat3 st.l ++ [.string n.path, .int .i64 n.kind, .string n.data])) (hk : KT [45] w w3) (hb : Below B w w3) (hll : st.l.length + 1 ≤ st.pos) :
    QR B R (w3.setCell ⟨R, 4, none⟩ v') s v' (st.push n) ∧ Below B w (w3.setCell ⟨R, 4, none⟩ v') ∧ KT [56, 45] w (w3.setCell ⟨R, 4, none⟩ v') := by
  have hR3 := hk _ _ _ _ h.blk (by decide)
  have hne : v'.ownBlock ≠ some R := fun e => by
    obtain ⟨c, fz, hc⟩ := own_kind hown R e
    rw [hR3] at hc
    injection hc with hc
    injection hc with _ hc _
    exact absurd hc (by decide)
  refine ⟨⟨block_set hR3 4 v', h.BR, ?_, h.le, ?_⟩, hb.setCell h.BR _, KT.set (hk.mono (by decide)) hR3 (by decide) 4 v'⟩
  · have := ownsRow_setCell_other hown hne (a := ⟨R, 4, none⟩) v'
    unfold Ns.push
    rw [flat3_append, List.length_append]
    exact this
  · simp only [Ns.push, List.length_append, List.length_singleton]; exact hll
/-- A directory's call. -/
def DirC (s : ByteArray) (f : Nat) : Prop := ∀ (B R : Nat) (w : World) (v : Value) (st : Ns) (path : ByteArray) (deep : Nat), QR B R w s v st → st.e = 0 → s.size - st.pos < f → path.size ≤ st.pos → deep ≤ st.pos →
  Calls Tryd.prog 63 #[.pointer (some ⟨R, 0, none⟩), .string path, .int .i64 deep] w fun e w' => (∃ r, e = .returned r) ∧ QQ B R w s (dirN s.data.toList f path deep ⟨#[]⟩ st) w'
theorem list_eq {t x : ByteArray} (h : t = x) (l : Bs) (hl : x.toList = l) : (t.toList == l) = true := by rw [h, hl]; simp
theorem list_ne {t x : ByteArray} (h : ¬ t = x) (l : Bs) (hl : x.toList = l) : (t.toList == l) = false := by rw [← hl]; exact eqB_false h
theorem file_list : wFile.toList = [102, 105, 108, 101] := by simp [wFile, ByteArray.toList_eq]
theorem link_list : wLink.toList = [108, 105, 110, 107] := by simp [wLink, ByteArray.toList_eq]
theorem dir_list : wDir.toList = [100, 105, 114] := by simp [wDir, ByteArray.toList_eq]
theorem exec_list : wExec.toList = [101, 120, 101, 99] := by simp [wExec, ByteArray.toList_eq]
theorem entry_list : wEntry.toList = [101, 110, 116, 114, 121] := by simp [wEntry, ByteArray.toList_eq]
/-- Up to the kind's word, where one came. -/
theorem head_ok {S : Bs} {deep : Nat} {st : Ns} (h : (headN S deep st).e = 0) : deep ≤ 5 ∧ ¬ st.l.length = 30 ∧ headN S deep st = mustN S wType (mustN S wOpen st) := by
  unfold headN at h
  obtain ⟨h1, _⟩ := must_grow h
  obtain ⟨h3, h4⟩ := failIf_live h1 (by decide)
  obtain ⟨_, h5⟩ := failIf_live h3 (by decide)
  have a5 : ¬ 5 < deep := of_decide_eq_false h5
  have a30 : ¬ st.l.length = 30 := of_decide_eq_false h4
  refine ⟨by omega, a30, ?_⟩
  unfold headN
  rw [decide_eq_false a5, decide_eq_false a30]
  rfl

set_option maxRecDepth 20000 in
set_option maxHeartbeats 2000000 in
theorem rnode_file {B R : Nat} {w : World} {s : ByteArray} {v : Value} {st : Ns} (h : QR B R w s v st) (hs : s.size ≤ 50000000) (path : ByteArray) (deep : Nat)
    (hw : (wordN s.data.toList [wFile, wLink, wDir] (headN s.data.toList deep st)).2 = wFile) :
    Calls Tryd.prog 43 #[.pointer (some ⟨R, 0, none⟩), .string path, .int .i64 deep] w fun e w' => (∃ r, e = .returned r) ∧ QQ B R w s (fileN s.data.toList path (wordN s.data.toList [wFile, wLink, wDir] (headN s.data.toList deep st)).1) w' := by
  obtain ⟨i45, hi, hz0, hz1, hz2⟩ := info_parts Tryd.info45
  have he3 := word_some (may := [wFile, wLink, wDir]) (st := headN s.data.toList deep st) (by rw [hw]; decide)
  obtain ⟨he2, hg3⟩ := word_grow he3
  obtain ⟨_, hg2⟩ := head_grow he2
  obtain ⟨h5, h30, hhd⟩ := head_ok he2
  have hl3 := word_l s.data.toList [wFile, wLink, wDir] (headN s.data.toList deep st)
  rw [hhd] at hw he3 hg3 hg2 hl3 ⊢
  rw [must_l, must_l] at hl3
  obtain ⟨a, cap, rfl, hcap⟩ := own_slice h.nd
  have hllp := h.ll
  have cM1 := hide (rmust_any h wOpen hs)
  have c1 : w.cell? ⟨R, 1, none⟩ = some (.int .i64 st.pos) := by simp [World.cell?, h.blk]
  have h5z : ¬ (5 : Int) < deep := by omega
  have h30z : ¬ (st.l.length : Int) = 30 := by omega
  have h30b : ((st.l.length : Int) == 30) = false := beq_eq_false_iff_ne.2 h30z
  generalize e1 : mustN s.data.toList wOpen st = st1 at *
  generalize e2 : mustN s.data.toList wType st1 = st2 at *
  generalize e3 : wordN s.data.toList [wFile, wLink, wDir] st2 = WX at *
  obtain ⟨st3, t⟩ := WX
  simp only at hw he3 hg3 hl3 ⊢
  have E2 := hide e2
  have E3 := hide e3
  unfold fileN
  have hm4 := word_mono s.data.toList [wExec, wData] st3
  have hl4 := word_l s.data.toList [wExec, wData] st3
  generalize e4 : wordN s.data.toList [wExec, wData] st3 = WY at *
  obtain ⟨st4, t4⟩ := WY
  simp only at hm4 hl4 ⊢
  have E4 := hide e4
  have tb := list_eq hw _ file_list
  rw [hl3] at hl4
  clear h hw e1 e2 e3 e4 hhd he2 h30 hl3
  by_cases hx : t4 = wExec
  · have tb4 := list_eq hx _ exec_list
    rw [if_pos hx]
    unfold dataN
    have hm5 := must_mono s.data.toList wNone st4
    have hl5 := must_l s.data.toList wNone st4
    generalize e5 : mustN s.data.toList wNone st4 = st5 at *
    rw [hl4] at hl5
    have E5 := hide e5
    have hm6 := must_mono s.data.toList wData st5
    have hl6 := must_l s.data.toList wData st5
    generalize e6 : mustN s.data.toList wData st5 = st6 at *
    rw [hl5] at hl6
    have E6 := hide e6
    clear hx e5 e6 hl4 hl5
    have hm7 := next_mono s.data.toList 100 st6
    have hl7 := next_l s.data.toList 100 st6
    generalize e7 : nextN s.data.toList 100 st6 = NX at *
    obtain ⟨st7, d⟩ := NX
    simp only at hm7 hl7 ⊢
    rw [hl6] at hl7
    have E7 := hide e7
    have hL7 := congrArg List.length hl7
    have hP7 : st7.l.length + 1 ≤ st7.pos := by omega
    clear e7 hl6 hl7 hL7
    go_enter Tryd.func43, Tryd.ntmps43
    go_wp2_with fail
    refine cM1.out.mono ?_
    rintro e w1 ⟨⟨r, rfl⟩, hq1⟩
    have Q1 := hide hq1
    have c4 : w1.cell? ⟨R, 4, none⟩ = some (.slice a st.l.length cap) := by simp [World.cell?, hq1.1.blk]
    have cM2 := hide (rmust_any hq1.1 wType hs)
    rw [E2.out] at cM2
    clear cM1 c1 hq1
    go_wp2_with fail
    refine cM2.out.mono ?_
    rintro e w2 ⟨⟨r2, rfl⟩, hq2⟩
    have Q2 := hide (Q1.out.trans hq2)
    have cW := hide (rword_new hq2.1 [wFile, wLink, wDir] #[.string ⟨#[102, 105, 108, 101]⟩, .string ⟨#[108, 105, 110, 107]⟩, .string ⟨#[100, 105, 114]⟩] rfl 3 rfl w2.heap.size rfl (by simp) hs)
    rw [E3.out] at cW
    clear cM2 c4 hq2 Q1
    go_wp2_with fail
    refine cW.out.mono ?_
    rintro e w3 ⟨rfl, hq3⟩
    have Q3 := hide (Q2.out.trans hq3)
    have cX := hide (rword_new hq3.1 [wExec, wData] #[.string ⟨#[101, 120, 101, 99]⟩, .string ⟨#[100, 97, 116, 97]⟩] rfl 2 rfl w3.heap.size rfl (by simp) hs)
    rw [E4.out] at cX
    clear cW hq3 Q2
    go_wp2_with fail
    refine cX.out.mono ?_
    rintro e w4 ⟨rfl, hq4⟩
    have Q4 := hide (Q3.out.trans hq4)
    clear cX hq4 Q3
    have cP := hide (rmust_any Q4.out.1 wNone hs)
    rw [E5.out] at cP
    go_wp2_with fail
    refine cP.out.mono ?_
    rintro e wP ⟨⟨rP, rfl⟩, hqP⟩
    have QP1 := hide (Q4.out.trans hqP)
    have cR := hide (rmust_any hqP.1 wData hs)
    rw [E6.out] at cR
    clear cP hqP Q4
    go_wp2_with fail
    refine cR.out.mono ?_
    rintro e wR ⟨⟨rR, rfl⟩, hqR⟩
    have QR1 := hide (QP1.out.trans hqR)
    clear cR hqR QP1
    have cN := hide (rnext_any (QR1.out.1.new (drewB wR)) 100 (by omega) hs)
    rw [E7.out] at cN
    have c4 : wR.cell? ⟨R, 4, none⟩ = some (.slice a st.l.length cap) := by simp [World.cell?, QR1.out.1.blk]
    go_wp2
    go_region_law (first
      | (have _g := cN; clear _g; go_simp; go_wp2_with (go_at_call 62; refine cN.out.mono ?_; rintro e w5 ⟨rfl, hq5⟩; have Q5 := hide (QP.after (drewB wR) QR1.out.1.Bw hq5); have O5 := hide hq5.1.nd; have c45 : w5.cell? ⟨R, 4, none⟩ = some (.slice a st.l.length cap) := (by simp [World.cell?, hq5.1.blk]); have hrow5 := hide (fun e : some R = (Value.slice a st.l.length cap).ownBlock => hq5.1.row e.symm); have hle5 := hq5.1.le; have hR5 := hq5.1.lt; have hB5 := hq5.1.Bw; clear hq5 cN))
      | (refine step_append_own rfl (.tmp 49) (.tmp 55) 22 rfl B 45 i45 (.agg #[.string ⟨#[]⟩, .int .i64 0, .string ⟨#[]⟩]) 3 40 Tryd.underlying22 hi hz0 hz1 hz2 rfl (by decide) (.slice a st.l.length cap) st7.l.length (flat3 st7.l) (by simp [Act.eval]) (O5.out.alloc _) ⟨w5.heap.size, 0, none⟩ 1 1 [.string path, .int .i64 2, .string d] (by simp [Act.eval]) rfl (cell_three_at _ _ _ _ _ _ rfl) (fun x hx => by simp at hx; rcases hx with rfl | rfl | rfl <;> rfl) (by unfold maxLen; omega) (by omega) (by simp; try omega) ?_; intro v6 w6 hown6 hgrow6 hat6; obtain ⟨g6, cap6, rfl, hcap6⟩ := own_form hown6 (by omega); have hR6 := hide ((hgrow6.block R (by simp; try omega) hrow5.out).trans (block_keep (w := w5) _ Q5.out.1.blk)); have c46 : w6.cell? ⟨R, 4, none⟩ = some (.slice a st.l.length cap) := (by simp [World.cell?, hR6.out]); have f46 : w6.frozen? ⟨R, 4, none⟩ = false := (by simp [World.frozen?, hR6.out]); have hO6 := hide hown6; have hG6 := hide hgrow6; clear hown6 hgrow6 hat6))
    all_goals
      obtain ⟨hR7, hB7, hK7⟩ := Q5.out.1.push ⟨path, 2, d⟩ hO6.out (((KT.refl [45] w5).alloc _).grown (O5.out.alloc _) hG6.out (by decide)) (((Below.refl B w5).alloc hB5 _).grown hG6.out (by simp; try omega) (fun k hk => (O5.out.lt k hk).1)) hP7
      generalize w6.setCell ⟨R, 4, none⟩ (.slice (some ⟨g6, 0, none⟩) (st7.l.length + 1) cap6) = W7 at hR7 hB7 hK7 ⊢
      have cC := hide (rmust_any hR7 wClose hs)
      have HB7 := hide hB7
      clear hO6 hG6 hR6 c46 f46 c45 c4 hR7 hB7
      go_wp2_with fail
      refine cC.out.mono ?_
      rintro e w8 ⟨⟨r8, rfl⟩, hq8⟩
      go_wp2
      go_end0
      exact ⟨⟨_, rfl⟩, (QR1.out.trans Q5.out).q ⟨⟨_, hq8.1⟩, HB7.out.trans hq8.2.1, hK7.trans (hq8.2.2.mono (by decide))⟩⟩
  · have tb4 := list_ne hx _ exec_list
    rw [if_neg hx]
    unfold dataN
    clear hx
    have hm5 := next_mono s.data.toList 100 st4
    have hl5 := next_l s.data.toList 100 st4
    generalize e5 : nextN s.data.toList 100 st4 = NX at *
    obtain ⟨st5, d⟩ := NX
    simp only at hm5 hl5 ⊢
    rw [hl4] at hl5
    have E5 := hide e5
    have hL5 := congrArg List.length hl5
    have hP5 : st5.l.length + 1 ≤ st5.pos := by omega
    clear e5 hl4 hl5 hL5
    go_enter Tryd.func43, Tryd.ntmps43
    go_wp2_with fail
    refine cM1.out.mono ?_
    rintro e w1 ⟨⟨r, rfl⟩, hq1⟩
    have Q1 := hide hq1
    have c4 : w1.cell? ⟨R, 4, none⟩ = some (.slice a st.l.length cap) := by simp [World.cell?, hq1.1.blk]
    have cM2 := hide (rmust_any hq1.1 wType hs)
    rw [E2.out] at cM2
    clear cM1 c1 hq1
    go_wp2_with fail
    refine cM2.out.mono ?_
    rintro e w2 ⟨⟨r2, rfl⟩, hq2⟩
    have Q2 := hide (Q1.out.trans hq2)
    have cW := hide (rword_new hq2.1 [wFile, wLink, wDir] #[.string ⟨#[102, 105, 108, 101]⟩, .string ⟨#[108, 105, 110, 107]⟩, .string ⟨#[100, 105, 114]⟩] rfl 3 rfl w2.heap.size rfl (by simp) hs)
    rw [E3.out] at cW
    clear cM2 c4 hq2 Q1
    go_wp2_with fail
    refine cW.out.mono ?_
    rintro e w3 ⟨rfl, hq3⟩
    have Q3 := hide (Q2.out.trans hq3)
    have cX := hide (rword_new hq3.1 [wExec, wData] #[.string ⟨#[101, 120, 101, 99]⟩, .string ⟨#[100, 97, 116, 97]⟩] rfl 2 rfl w3.heap.size rfl (by simp) hs)
    rw [E4.out] at cX
    clear cW hq3 Q2
    go_wp2_with fail
    refine cX.out.mono ?_
    rintro e w4 ⟨rfl, hq4⟩
    have Q4 := hide (Q3.out.trans hq4)
    clear cX hq4 Q3
    have cN := hide (rnext_any (Q4.out.1.new (drewB w4)) 100 (by omega) hs)
    rw [E5.out] at cN
    have c4 : w4.cell? ⟨R, 4, none⟩ = some (.slice a st.l.length cap) := by simp [World.cell?, Q4.out.1.blk]
    go_wp2
    go_region_law (first
      | (have _g := cN; clear _g; go_simp; go_wp2_with (go_at_call 62; refine cN.out.mono ?_; rintro e w5 ⟨rfl, hq5⟩; have Q5 := hide (QP.after (drewB w4) Q4.out.1.Bw hq5); have O5 := hide hq5.1.nd; have c45 : w5.cell? ⟨R, 4, none⟩ = some (.slice a st.l.length cap) := (by simp [World.cell?, hq5.1.blk]); have hrow5 := hide (fun e : some R = (Value.slice a st.l.length cap).ownBlock => hq5.1.row e.symm); have hle5 := hq5.1.le; have hR5 := hq5.1.lt; have hB5 := hq5.1.Bw; clear hq5 cN))
      | (refine step_append_own rfl (.tmp 49) (.tmp 55) 22 rfl B 45 i45 (.agg #[.string ⟨#[]⟩, .int .i64 0, .string ⟨#[]⟩]) 3 40 Tryd.underlying22 hi hz0 hz1 hz2 rfl (by decide) (.slice a st.l.length cap) st5.l.length (flat3 st5.l) (by simp [Act.eval]) (O5.out.alloc _) ⟨w5.heap.size, 0, none⟩ 1 1 [.string path, .int .i64 1, .string d] (by simp [Act.eval]) rfl (cell_three_at _ _ _ _ _ _ rfl) (fun x hx => by simp at hx; rcases hx with rfl | rfl | rfl <;> rfl) (by unfold maxLen; omega) (by omega) (by simp; try omega) ?_; intro v6 w6 hown6 hgrow6 hat6; obtain ⟨g6, cap6, rfl, hcap6⟩ := own_form hown6 (by omega); have hR6 := hide ((hgrow6.block R (by simp; try omega) hrow5.out).trans (block_keep (w := w5) _ Q5.out.1.blk)); have c46 : w6.cell? ⟨R, 4, none⟩ = some (.slice a st.l.length cap) := (by simp [World.cell?, hR6.out]); have f46 : w6.frozen? ⟨R, 4, none⟩ = false := (by simp [World.frozen?, hR6.out]); have hO6 := hide hown6; have hG6 := hide hgrow6; clear hown6 hgrow6 hat6))
    all_goals
      obtain ⟨hR7, hB7, hK7⟩ := Q5.out.1.push ⟨path, 1, d⟩ hO6.out (((KT.refl [45] w5).alloc _).grown (O5.out.alloc _) hG6.out (by decide)) (((Below.refl B w5).alloc hB5 _).grown hG6.out (by simp; try omega) (fun k hk => (O5.out.lt k hk).1)) hP5
      generalize w6.setCell ⟨R, 4, none⟩ (.slice (some ⟨g6, 0, none⟩) (st5.l.length + 1) cap6) = W7 at hR7 hB7 hK7 ⊢
      have cC := hide (rmust_any hR7 wClose hs)
      have HB7 := hide hB7
      clear hO6 hG6 hR6 c46 f46 c45 c4 hR7 hB7
      go_wp2_with fail
      refine cC.out.mono ?_
      rintro e w8 ⟨⟨r8, rfl⟩, hq8⟩
      go_wp2
      go_end0
      exact ⟨⟨_, rfl⟩, (Q4.out.trans Q5.out).q ⟨⟨_, hq8.1⟩, HB7.out.trans hq8.2.1, hK7.trans (hq8.2.2.mono (by decide))⟩⟩
end Go.Proofs.YticfcjmlphhpgaaDoor
