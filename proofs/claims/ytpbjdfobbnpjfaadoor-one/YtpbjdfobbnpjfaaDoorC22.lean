/-
  WALK of narkeep.Round.
-/
import Derived.Test.YtpbjdfobbnpjfaaDoorC21
import Derived.Test.YtpbjdfobbnpjfaaDoorR5
namespace Go.Proofs.YtpbjdfobbnpjfaaDoor
open Go.RowKit

theorem Tree.sm {l : List Nd} (h : Tree l) : Small l := ⟨by have := h.len; omega, fun n hn => by have := h.small n hn; omega⟩
theorem pack_ok {l : List Nd} (h : Tree l) : packRes l = #[.string ⟨(packBytes l).toArray⟩, .int .i64 0, .int .i64 0] := by
  obtain ⟨ds, hr⟩ := h.run
  unfold packRes; rw [firstW_run l ds h.ne hr]
/-- What Round's three readings tell. -/
theorem round_reads {l : List Nd} (h : Tree l) (b : ByteArray) (hb : b = ⟨(packBytes l).toArray⟩) :
    b.size % 8 = 0 ∧ 64 ≤ b.size ∧ b.size ≤ 2000000 ∧ readF b.data.toList = (l, 0, 0) ∧ readF (b.extract 0 (b.size - 1)).data.toList = ([], 2, b.size - 1) ∧ readF (b ++ ⟨#[0]⟩).data.toList = ([], 10, b.size) := by
  obtain ⟨Z, hZ⟩ := h.run
  have e : b.data.toList = packBytes l := by rw [hb]
  have hs : b.size = (packBytes l).length := by rw [← e]; simp
  have hr := read_pack l Z h.ne hZ
  have h64 := pack_ge l h.ne
  refine ⟨by rw [hs]; exact pack_mod l Z h.ne hZ, by omega, by rw [hs]; exact pack_le l h.len h.small, by rw [e]; exact hr, ?_, ?_⟩
  · have hsplit : packBytes l = (packBytes l).take (b.size - 1) ++ (packBytes l).drop (b.size - 1) := (List.take_append_drop _ _).symm
    have hd : (packBytes l).drop (b.size - 1) ≠ [] := fun h0 => by
      have := congrArg List.length h0
      rw [List.length_drop] at this
      simp at this
      omega
    have hx : (b.extract 0 (b.size - 1)).data.toList = (packBytes l).take (b.size - 1) := by
      rw [Lib.extract_data, e]; simp
    rw [hx]
    rw [hsplit] at hr
    rw [read_less hd hr, List.length_take]
    congr 2
    omega
  · rw [data_append, e]
    have : (⟨#[0]⟩ : ByteArray).data.toList = [0] := rfl
    rw [this, read_more 0 hr, hs]

set_option maxRecDepth 20000 in
set_option maxHeartbeats 2000000 in
theorem Round_any (s : ByteArray) (n : Int) (w : World) (hT : Lib.Utf8Tabs 0 1 w) (hn1 : -9223372036854775808 ≤ n) (hn2 : n ≤ 9223372036854775807) (hs0 : s.size ≤ 9223372036854775807) :
    Calls Tryd.prog 4 #[.string s, .int .i64 n] w fun e w' => e = .returned (.bool true) ∧ Below w.heap.size w w' := by
  by_cases hs : (16384 : Int) < s.size
  · clear hs0
    go_enter Tryd.func4, Tryd.ntmps4
    go_wp2
    go_ret
    exact ⟨rfl, Below.refl _ _⟩
  · have cG := hide (grown_any s w (by omega))
    have HT := hide hT
    clear hT
    go_enter Tryd.func4, Tryd.ntmps4
    go_wp2_with fail
    refine cG.out.mono ?_
    rintro e w1 ⟨v, l, rfl, hown, hTr, hb1⟩
    clear cG
    have hlp : 0 < l.length := List.length_pos_iff.2 hTr.ne
    have hl30 := hTr.len
    have cP := hide (narPack_any v l w1 (Utf8Tabs_below HT.out hb1) (own_nodes hown).1 hTr.sm)
    rw [pack_ok hTr] at cP
    obtain ⟨b, hb⟩ : ∃ b : ByteArray, b = ⟨(packBytes l).toArray⟩ := ⟨_, rfl⟩
    obtain ⟨r1, r2, r3, r4, r5, r6⟩ := round_reads hTr b hb
    rw [← hb] at cP
    clear hb
    obtain ⟨k, hk⟩ : ∃ k, b.size = k + 1 := ⟨b.size - 1, by omega⟩
    rw [hk] at r1 r2 r3 r5 r6
    rw [Nat.add_sub_cancel] at r5
    obtain ⟨gL, capL, rfl, hcap⟩ := own_form hown hlp
    obtain ⟨gx, cx, hvx, hgx, hNx⟩ := (own_nodes hown).2 hlp
    injection hvx with hv1 hv2 hv3
    injection hv1 with hv1
    injection hv1 with hv1 _ _
    subst hv1
    have HN1 := hide hNx
    clear hTr hown hNx hv2 hv3
    go_wp2_with fail
    refine cP.out.mono ?_
    rintro e w2 ⟨rfl, hb2⟩
    clear cP
    have hbw2 : Below w.heap.size w w2 := hb1.trans (hb2.mono hb1.size)
    have HN2 := hide (HN1.out.below hb2 hgx)
    have hg2 : gL < w2.heap.size := Nat.lt_of_lt_of_le hgx hb2.size
    clear HN1 hb1 hb2 hgx
    have m8 : ((k : Int) + 1) % 8 = 0 := by omega
    have m64 : ¬ (k : Int) + 1 < 64 := by omega
    have cA := hide (read_any b n w2 (Utf8Tabs_below HT.out hbw2) (by omega) hn1 hn2)
    rw [r4] at cA
    go_wp2_with fail
    refine cA.out.mono ?_
    rintro e w3 ⟨⟨v3, rfl, hS3⟩, hb3⟩
    clear cA
    have hbw3 := hbw2.trans (hb3.mono hbw2.size)
    have HN3 := hide (HN2.out.below hb3 hg2)
    have hg3 : gL < w3.heap.size := Nat.lt_of_lt_of_le hg2 hb3.size
    clear HN2 hg2 hb3 hbw2
    have hszx : (b.extract 0 k).size ≤ 40000000 := by rw [ByteArray.size_extract]; omega
    have cB := hide (read_any (b.extract 0 k) n w3 (Utf8Tabs_below HT.out hbw3) hszx hn1 hn2)
    rw [r5] at cB
    have hke : (k : Int) ≤ b.size := by omega
    go_wp2_with fail
    refine cB.out.mono ?_
    rintro e w4 ⟨⟨v4, rfl, hS4⟩, hb4⟩
    clear cB
    have hbw4 := hbw3.trans (hb4.mono hbw3.size)
    have HN4 := hide (HN3.out.below hb4 hg3)
    have hS3' := hide (hS3.below hb4)
    have hg4 : gL < w4.heap.size := Nat.lt_of_lt_of_le hg3 hb4.size
    clear HN3 hg3 hb4 hbw3 hS3 hS4
    have hszy : (b ++ ⟨#[0]⟩).size ≤ 40000000 := by
      rw [ByteArray.size_append]
      have : (⟨#[0]⟩ : ByteArray).size = 1 := rfl
      omega
    have cC := hide (read_any (b ++ ⟨#[0]⟩) n w4 (Utf8Tabs_below HT.out hbw4) hszy hn1 hn2)
    rw [r6] at cC
    go_wp2_with fail
    refine cC.out.mono ?_
    rintro e w5 ⟨⟨v5, rfl, hS5⟩, hb5⟩
    clear cC
    have hbw5 := hbw4.trans (hb5.mono hbw4.size)
    have HN5 := hide (HN4.out.below hb5 hg4)
    have hS3b := hS3'.out.below hb5
    obtain ⟨a3, cap3, rfl, hc3, hm3, hz3, hp3⟩ := hS3b
    obtain ⟨b3, o3, rfl, hlt3, hN3⟩ := hp3 hlp
    have hg5 : gL < w5.heap.size := Nat.lt_of_lt_of_le hg4 hb5.size
    have cS := hide (same_any gL 0 capL b3 o3 cap3 l w5 hg5 hlt3 HN5.out hN3 (by omega) hlp)
    clear HN4 HN5 hN3 hS5 hS3' hb5 hbw4
    go_wp2_with fail
    refine cS.out.mono ?_
    rintro e w6 ⟨rfl, hb6⟩
    clear cS
    go_wp2
    go_ret
    exact ⟨rfl, hbw5.trans (hb6.mono hbw5.size)⟩
end Go.Proofs.YtpbjdfobbnpjfaaDoor
