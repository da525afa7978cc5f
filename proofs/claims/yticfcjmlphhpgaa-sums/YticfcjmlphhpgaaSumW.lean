import Derived.Test.YticfcjmlphhpgaaRows
import Derived.Test.YticfcjmlphhpgaaPlain
import Derived.WalkKit
import Derived.WalkSpells
import Derived.WalkLawsBesides
import Derived.Laws.IdiomStrings
namespace Go.Proofs.Yticfcjmlphhpgaa
open Go.RowKit

theorem Try.info5 : (Try.prog.info? 5).map (fun i => (i.zero, i.size, i.bytes)) = some (some (.int .u8 0), 1, 1) := by kernel_rfl

/-- 'string([]byte{c})' of a block just laid. -/
theorem conv_one (w : World) (n : Int) (c : UInt8) (h : n = (c.toNat : Int)) :
    (convert 25 9 (.slice (some ⟨w.heap.size, 0, none⟩) 1 1)).run Try.prog (w.alloc (.cells #[.int .u8 n] 5)) = .ok (.string ⟨#[c]⟩) (w.alloc (.cells #[.int .u8 n] 5)) := by
  subst h
  exact run_convert_bytes_back (P := Try.prog) _ 25 9 5 ⟨w.heap.size, 0, none⟩ 1 [c] Try.underlying25 Try.underlying5 Try.underlying9 (fun j hj => by
    obtain rfl : j = 0 := by simp at hj; omega
    exact cell_one_new _ _ _ 0 _ rfl)

set_option maxHeartbeats 400000 in
theorem ref_any (s : ByteArray) (w : World) (hs : s.size ≤ maxLen) :
    Calls Try.prog 5 #[.string s] w fun e w' => e = .returned (.string ⟨(le (fnv s.data.toList) 8).toArray⟩) ∧ Below w.heap.size w w' := by
  unfold maxLen at hs
  obtain ⟨H, hH⟩ : ∃ H, fnv s.data.toList = H := ⟨_, rfl⟩
  rw [hH]
  have HH : Hid (fnv s.data.toList = H) := hH
  clear hH
  go_enter Try.func5, Try.ntmps5
  go_wp2
  go_loop [3, 4] (fun h i => ∃ k : Nat, k ≤ s.size ∧ i = .int .i64 k ∧ h = .int .u64 (fnv (s.data.toList.take k))) (fun _ i => s.size - (intOf i).toNat)
  case atStart => exact ⟨0, Nat.zero_le _, rfl, rfl⟩
  case round =>
    obtain ⟨k, hk, rfl, rfl⟩ := hrel
    have hb := fnv_range (s.data.toList.take k)
    by_cases hlt : k < s.size
    · have HS : Hid (fnv (s.data.toList.take (k + 1)) = fnvStep (fnv (s.data.toList.take k)) s[k]) := by rw [take_snoc s k hlt]; exact fnv_snoc _ _
      go_wp2
      go_round
      case rel => exact ⟨k + 1, by omega, by go_num, by rw [HS.out]; rfl⟩
      case measure => simp [intOf]; omega
    · obtain rfl : k = s.size := by omega
      rw [List.take_of_length_le (by simp), HH.out] at hb ⊢
      go_wp2
      go_loopw [5, 6] (fun o i w1 => ∃ k : Nat, k ≤ 8 ∧ i = .int .i64 k ∧ Below w.heap.size w w1 ∧ o = .string ⟨(le H k).toArray⟩) (fun _ i _ => 8 - (intOf i).toNat)
      case atStart => exact ⟨0, by omega, rfl, Below.refl _ _, rfl⟩
      case round =>
        obtain ⟨k, hk, rfl, hbel, rfl⟩ := hrel
        by_cases hlt : k < 8
        · have hcv := conv_one wr (H / 2 ^ (8 * k) % 256) (byteAt H k) (byteAt_val H k).symm
          have hadd : ∀ w1, (Op.stringOp .add ⟨(le H k).toArray⟩ ⟨#[byteAt H k]⟩).run Try.prog w1 = .ok (.string ⟨(le H (k + 1)).toArray⟩) w1 := fun w1 => by
            rw [run_string_add_sum]
            · rw [le_succ, ByteArray.mk_append_mk]
            · have := le_length H k; simp [ByteArray.size]; omega
          go_wp2
          go_roundw
          case rel => exact ⟨k + 1, by omega, by go_num, hbel.alloc hbel.size _, rfl⟩
          case measure => simp [intOf]; omega
        · obtain rfl : k = 8 := by omega
          go_wp2
          go_ret
          exact ⟨rfl, hbel⟩

set_option maxHeartbeats 400000 in
theorem appendNumber_any (base : Nat) (v : Value) (n : Nat) (xs : List Value) (H : Int) (w : World) (h0 : 0 ≤ H) (h1 : H < 18446744073709551616)
    (hown : w.ownsRow base 5 1 v n xs) (hbase : base ≤ w.heap.size) (hn : n + 8 ≤ 140737488355328) :
    Calls Try.prog 7 #[v, .int .u64 H] w fun e w' => ∃ v', e = .returned v' ∧ w'.ownsRow base 5 1 v' (n + 8) (xs ++ cellsOf (le H 8)) ∧ Below base w w' := by
  obtain ⟨i0, hi, hz0, hz1, hz2⟩ := info_parts Try.info5
  go_enter Try.func7, Try.ntmps7
  go_wp2
  go_loopw [0, 1, 5] (fun o h i w1 => ∃ k : Nat, k ≤ 8 ∧ i = .int .i64 k ∧ h = .int .u64 (H / 2 ^ (8 * k)) ∧ w1.ownsRow base 5 1 o (n + k) (xs ++ cellsOf (le H k)) ∧ Below base w w1) (fun _ _ i _ => 8 - (intOf i).toNat)
  case atStart => exact ⟨0, by omega, rfl, by simp, by simpa [le, cellsOf] using hown, Below.refl _ _⟩
  case round =>
    rename_i o h i
    obtain ⟨k, hk, rfl, rfl, hown1, hbel⟩ := hrel
    have hr := shift_range H k h0 h1
    by_cases hlt : k < 8
    · go_wp2_with (at_builtin; refine wpList_append_own _ rfl (.tmp 7) (.tmp 10) 25 rfl base 5 i0 (.int .u8 0) 1 1 Try.underlying25 hi hz0 hz1 hz2 rfl (by decide) _ _ _ rfl (hown1.alloc _) ⟨wr.heap.size, 0, none⟩ 1 1 [.int .u8 (H / 2 ^ (8 * k) % 256)] rfl rfl (cell_one_new _ _ _) (fun x hx => by simp at hx; subst hx; rfl) (by unfold maxLen; omega) (by omega) (by simp; have := hbel.size; omega) ?_; intro v' w3 hown3 hgrow3 hnil3)
      go_roundw
      case rel =>
        refine ⟨k + 1, by omega, by go_num, ?_, ?_, ?_⟩
        · rw [← shift_succ]
        · rw [le_succ, cellsOf_append, ← List.append_assoc]
          have e : cellsOf [byteAt H k] = [.int .u8 (H / 2 ^ (8 * k) % 256)] := by simp [cellsOf, byteAt_val]
          rw [e]; exact hown3
        · exact (hbel.alloc (by have := hbel.size; omega) _).grown hgrow3 (by simp; have := hbel.size; omega) (fun k hk => (hown1.lt k hk).1)
      case measure => simp [intOf]; omega
    · obtain rfl : k = 8 := by omega
      go_wp2
      go_ret
      exact ⟨_, rfl, hown1, hbel⟩

/-- What an owned row of bytes reads as. -/
theorem own_string (base : Nat) (v : Value) (l : List UInt8) (w : World) (hown : w.ownsRow base 5 1 v l.length (cellsOf l)) (hl : 0 < l.length) :
    ∃ a c, v = .slice (some a) l.length c ∧ (convert 25 9 (.slice (some a) l.length c)).run Try.prog w = .ok (.string ⟨l.toArray⟩) w := by
  obtain ⟨_, ⟨_, h⟩ | ⟨g, cap, cur, rfl, h2⟩⟩ := hown
  · omega
  · have hown : w.ownsRow base 5 1 (.slice (some ⟨g, 0, none⟩) l.length cap) l.length (cellsOf l) := ⟨by simp [cellsOf_length], .inr ⟨g, cap, cur, rfl, h2⟩⟩
    refine ⟨_, _, rfl, run_convert_bytes_back (P := Try.prog) _ 25 9 5 ⟨g, 0, none⟩ cap l Try.underlying25 Try.underlying5 Try.underlying9 (fun j hj => ?_)⟩
    exact hown.cells rfl j _ (by simp [cellsOf, hj])

set_option maxHeartbeats 400000 in
theorem wireSum_any (s : ByteArray) (w : World) (hs : s.size ≤ maxLen) :
    Calls Try.prog 6 #[.string s] w fun e w' => e = .returned (.string ⟨(le (fnv s.data.toList) 8).toArray⟩) ∧ Below w.heap.size w w' := by
  unfold maxLen at hs
  obtain ⟨H, hH⟩ : ∃ H, fnv s.data.toList = H := ⟨_, rfl⟩
  rw [hH]
  have HH : Hid (fnv s.data.toList = H) := hH
  clear hH
  go_enter Try.func6, Try.ntmps6
  go_wp2
  go_loop [3, 4, 7] (fun h _ i => ∃ k : Nat, k ≤ s.size ∧ i = .int .i64 k ∧ h = .int .u64 (fnv (s.data.toList.take k))) (fun _ _ i => s.size - (intOf i).toNat)
  case atStart => exact ⟨0, Nat.zero_le _, rfl, rfl⟩
  case round =>
    obtain ⟨k, hk, rfl, rfl⟩ := hrel
    have hb := fnv_range (s.data.toList.take k)
    by_cases hlt : k < s.size
    · have HS : Hid (fnv (s.data.toList.take (k + 1)) = fnvStep (fnv (s.data.toList.take k)) s[k]) := by rw [take_snoc s k hlt]; exact fnv_snoc _ _
      go_wp2
      go_round
      case rel => exact ⟨k + 1, by omega, by go_num, by rw [HS.out]; rfl⟩
      case measure => simp [intOf]; omega
    · obtain rfl : k = s.size := by omega
      rw [List.take_of_length_le (by simp), HH.out] at hb ⊢
      go_wp2_with fail
      refine (appendNumber_any w.heap.size (.slice none 0 0) 0 [] H w hb.1 hb.2 (World.ownsRow_nil _ _ _ _) (Nat.le_refl _) (by omega)).mono ?_
      rintro e w1 ⟨v', rfl, hown, hbel⟩
      obtain ⟨a, c, rfl, hcv⟩ := own_string w.heap.size v' (le H 8) w1 (by simpa [le_length] using hown) (by simp [le_length])
      rw [le_length] at hcv ⊢
      go_wp2
      go_ret
      exact ⟨rfl, hbel⟩

set_option maxHeartbeats 400000 in
theorem narSum_any (s : ByteArray) (w : World) (hs : s.size ≤ maxLen) :
    Calls Try.prog 4 #[.string s] w fun e w' => e = .returned (.string ⟨(le (fnv s.data.toList) 8).toArray⟩) ∧ Below w.heap.size w w' := by
  go_enter Try.func4, Try.ntmps4
  go_wp2_with fail
  refine (wireSum_any s w hs).mono ?_
  rintro e w1 ⟨rfl, hbel⟩
  go_wp2
  go_ret
  exact ⟨rfl, hbel⟩

set_option maxHeartbeats 400000 in
theorem law_any (s : ByteArray) (w : World) (hs : s.size ≤ maxLen) :
    Calls Try.prog 3 #[.string s] w fun e w' => e = .returned (.bool true) ∧ Below w.heap.size w w' := by
  have hs' := hs
  unfold maxLen at hs'
  by_cases hbig : (262144 : Int) < s.size
  · go_enter Try.func3, Try.ntmps3
    go_wp2
    go_ret
    exact ⟨rfl, Below.refl _ _⟩
  · go_enter Try.func3, Try.ntmps3
    go_wp2_with fail
    refine (narSum_any s w hs).mono ?_
    rintro e w1 ⟨rfl, hbel⟩
    go_wp2_with fail
    refine (ref_any s w1 hs).mono ?_
    rintro e w2 ⟨rfl, hbel2⟩
    go_wp2
    go_ret
    exact ⟨by simp, hbel.trans (hbel2.mono hbel.size)⟩
end Go.Proofs.Yticfcjmlphhpgaa
