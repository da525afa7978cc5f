/-
  WALK of narkeep.read.
-/
import Derived.Test.YtpbjdfobbnpjfaaDoorC20
namespace Go.Proofs.YtpbjdfobbnpjfaaDoor
open Go.RowKit

theorem tabs_two {w : World} (h : Lib.Utf8Tabs 0 1 w) : 2 ≤ w.heap.size := by
  have := World.block_lt_of_cell? w ⟨1, 0, none⟩ (h.2 0 (by omega)).1
  simp only at this
  omega
def strLen : Value → Nat
  | .string s => s.size
  | _ => 0
theorem extract_split (s : ByteArray) (n : Nat) : s.data.toList = (s.extract 0 n).data.toList ++ (s.extract n s.size).data.toList := by
  rw [Lib.extract_data, Lib.extract_data]
  simp only [List.drop_zero, Nat.sub_zero]
  rw [List.take_of_length_le (l := s.data.toList.drop n) (by simp), List.take_append_drop]
theorem RInv0 : RInv rd0 0 := Inv.init

set_option maxRecDepth 20000 in
set_option maxHeartbeats 2000000 in
theorem read_any (s : ByteArray) (n : Int) (w : World) (hT : Lib.Utf8Tabs 0 1 w) (hs : s.size ≤ 40000000) (hn1 : -9223372036854775808 ≤ n) (hn2 : n ≤ 9223372036854775807) :
    Calls Tryd.prog 5 #[.string s, .int .i64 n] w fun e w' => (∃ v, e = .returned (.tuple #[v, .int .i64 (readF s.data.toList).2.1, .int .i64 ((readF s.data.toList).2.2 : Nat)]) ∧ SliceN w' v (readF s.data.toList).1) ∧ Below w.heap.size w w' := by
  have hB2 := tabs_two hT
  obtain ⟨RR, hRR⟩ : ∃ RR, readF s.data.toList = RR := ⟨_, rfl⟩
  rw [hRR]
  have HRR : Hid (closeF (feedF rd0 s.data.toList) = RR) := hRR
  clear hRR
  have cN := hide (narNew_any w)
  have HT := hide hT
  clear hT
  go_enter Tryd.func5, Tryd.ntmps5
  go_wp2_with fail
  refine cN.out.mono ?_
  rintro e w1 ⟨N, R, rfl, hN1, hb1⟩
  clear cN
  go_wp2
  go_loopw [0] (fun x w2 => ∃ (s2 : ByteArray) (pre : Bs), x = .string s2 ∧ pre.length + s2.size = s.size ∧ Hid (s.data.toList = pre ++ s2.data.toList) ∧ Hid (NR w.heap.size N R w2 (feedF rd0 pre)) ∧ Hid (Below w.heap.size w w2)) (fun x _ => strLen x)
  case atStart => exact ⟨s, [], rfl, by simp, hide (by simp), hide (by exact hN1), hide hb1⟩
  case round =>
    obtain ⟨s2, pre, rfl, hlen, hsp, hN2, hb2⟩ := hrel
    have hI2 := feedF_inv RInv0 pre
    rw [Nat.zero_add] at hI2
    have hl2 : s2.data.toList.length = s2.size := by simp
    by_cases hc : 0 < n ∧ n < s2.size
    · obtain ⟨k, rfl⟩ : ∃ k : Nat, n = k := ⟨n.toNat, by omega⟩
      have hk0 : (0 : Int) < k := hc.1
      have hk1 : (k : Int) < s2.size := hc.2
      have hke : k ≤ s2.size := by omega
      have hsz1 : (s2.extract 0 k).size = k := by rw [ByteArray.size_extract]; omega
      have hsz2 : (s2.extract k s2.size).size = s2.size - k := by rw [ByteArray.size_extract]; omega
      have cF := hide (narFeed_any hN2.out hI2 (s2.extract 0 k) (by omega) (tabs_B hB2 HT.out hb2.out) hB2)
      have hl1 : (s2.extract 0 k).data.toList.length = k := by simpa using hsz1
      have hsplit := hide (extract_split s2 k)
      clear hI2 hc
      go_wp2_with fail
      refine cF.out.mono ?_
      rintro e w3 ⟨rfl, hN3, hb3⟩
      go_wp2
      go_roundw
      case rel =>
        refine ⟨s2.extract k s2.size, pre ++ (s2.extract 0 k).data.toList, rfl, by rw [List.length_append, hl1, hsz2]; omega, hide ?_, hide ?_, hide (hb2.out.trans hb3)⟩
        · rw [hsp.out, List.append_assoc, ← hsplit.out]
        · rw [← feedF_app]; exact hN3
      case measure => simp only [strLen]; rw [hsz2]; omega
    · have hcz : (decide (0 < n) && decide (n < (s2.size : Int))) = false := by
        rw [Bool.and_eq_false_iff, decide_eq_false_iff_not, decide_eq_false_iff_not]
        omega
      have cF := hide (narFeed_any hN2.out hI2 s2 (by omega) (tabs_B hB2 HT.out hb2.out) hB2)
      have hI3 := feedF_inv hI2 s2.data.toList
      rw [feedF_app] at hI3
      by_cases h0 : 0 < n
      · have h1 : ¬ n < s2.size := fun h => hc ⟨h0, h⟩
        clear hI2 hc hcz
        go_wp2_with fail
        refine cF.out.mono ?_
        rintro e w3 ⟨rfl, hN3, hb3⟩
        rw [feedF_app, ← hsp.out] at hN3
        rw [← hsp.out] at hI3
        go_wp2_with fail
        refine (narClose_any hN3 hI3 (by omega)).mono ?_
        rintro e w4 ⟨⟨v, rfl, hv⟩, hb4⟩
        rw [HRR.out] at hv ⊢
        go_wp2
        go_ret3
        exact ⟨⟨_, rfl, hv⟩, (hb2.out.trans hb3).trans hb4⟩
      · clear hI2 hc hcz
        go_wp2_with fail
        refine cF.out.mono ?_
        rintro e w3 ⟨rfl, hN3, hb3⟩
        rw [feedF_app, ← hsp.out] at hN3
        rw [← hsp.out] at hI3
        go_wp2_with fail
        refine (narClose_any hN3 hI3 (by omega)).mono ?_
        rintro e w4 ⟨⟨v, rfl, hv⟩, hb4⟩
        rw [HRR.out] at hv ⊢
        go_wp2
        go_ret3
        exact ⟨⟨_, rfl, hv⟩, (hb2.out.trans hb3).trans hb4⟩
end Go.Proofs.YtpbjdfobbnpjfaaDoor
