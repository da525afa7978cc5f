/-
  WALKS, 2: names.
-/
import Derived.Test.YtpbjdfobbnpjfaaDoorW1
import Derived.Test.YtpbjdfobbnpjfaaDoorM2
import Derived.Lib.OthersKept
import Derived.Laws.RangeAny
namespace Go.Proofs.YtpbjdfobbnpjfaaDoor
open Go.RowKit

theorem width_pos (s : ByteArray) (pos : Nat) (h : pos < s.size) : 1 ≤ (Utf8.decode s pos).2 := by
  by_cases ha : (s[pos]'h).toNat < 128
  · rw [decode_ascii s pos h ha]
    exact Nat.le_refl _
  · exact (decode_high s pos h (by omega)).2
theorem drop_ne (s : ByteArray) (pos : Nat) (h : pos < s.size) : s.data.toList.drop pos ≠ [] := by
  intro e
  have := congrArg List.length e
  simp at this
  omega

set_option maxRecDepth 20000 in
set_option maxHeartbeats 1000000 in
theorem isName_any (s : ByteArray) (w : World) (hs : s.size ≤ 1000000000) (hT : Lib.Utf8Tabs 0 1 w) :
    Calls Tryd.prog 43 #[.string s] w fun e w' => e = .returned (.bool (isNameB s.data.toList)) ∧ Below w.heap.size w w' := by
  by_cases h1 : s.data.toList = [46]
  · have hf : isNameB s.data.toList = false := by rw [h1]; rfl
    have hb : (s.toList == [46]) = true := by rw [ByteArray.toList_eq, h1]; rfl
    rw [hf]
    clear hf h1
    go_enter Tryd.func43, Tryd.ntmps43
    go_wp2
    go_ret
    exact ⟨rfl, Below.refl _ _⟩
  · have hb1 : (s.toList == [46]) = false := by rw [ByteArray.toList_eq]; exact beq_eq_false_iff_ne.2 h1
    by_cases h2 : s.data.toList = [46, 46]
    · have hf : isNameB s.data.toList = false := by rw [h2]; rfl
      have hb : (s.toList == [46, 46]) = true := by rw [ByteArray.toList_eq, h2]; rfl
      rw [hf]
      clear hf h1 h2
      go_enter Tryd.func43, Tryd.ntmps43
      go_wp2
      go_ret
      exact ⟨rfl, Below.refl _ _⟩
    · have hb2 : (s.toList == [46, 46]) = false := by rw [ByteArray.toList_eq]; exact beq_eq_false_iff_ne.2 h2
      have cV := hide (Tryd.utf8_ValidString s w (by omega) hT)
      by_cases hv : Lib.validD s.data.toList = true
      · obtain ⟨R, hR⟩ : ∃ R, isNameB s.data.toList = R := ⟨_, rfl⟩
        rw [hR]
        rw [hv] at cV
        have HI : Hid (∀ n, letters s.data.toList = some n → R = (decide ((1 : Int) ≤ n) && decide ((n : Int) ≤ 12))) := fun n hn => by rw [← hR]; exact isNameB_some _ n hn h1 h2
        have HN : Hid (letters s.data.toList = none → R = false) := fun hn => by rw [← hR]; exact isNameB_none _ hn
        have HV := hide hv
        clear hR h1 h2 hv hT
        go_enter Tryd.func43, Tryd.ntmps43
        go_wp2_with fail
        refine cV.out.mono ?_
        rintro e w1 ⟨rfl, hbel⟩
        clear cV
        go_wp2
        go_loopw [3, 5] (fun c _ w' => ∃ (pos q : Nat), w' = w1.iter s pos ∧ c = .int .i64 q ∧ q ≤ pos ∧ pos ≤ s.size ∧ Hid (letters s.data.toList = (letters (s.data.toList.drop pos)).map (· + q)) ∧ Hid (Lib.validD (s.data.toList.drop pos) = true)) (fun _ _ w' => s.size - w'.iterPos w1.heap.size)
        case atStart => exact ⟨0, 0, rfl, rfl, by omega, by omega, by show _ = _; simp, HV⟩
        case round =>
          obtain ⟨pos, q, rfl, rfl, hq, hpos, HL, HVr⟩ := hrel
          by_cases hp : pos < s.size
          · have hnx : ∀ ty, (Instr.next (.pointer (some ⟨w1.heap.size, 0, none⟩)) true ty).run Tryd.prog (w1.iter s pos) = _ := fun ty => run_next_any w1 s pos ty hp
            have hst := letters_step _ (drop_ne s pos hp)
            have hvt := HVr.out
            rw [Lib.validD_step _ (drop_ne s pos hp)] at hvt
            have hwle := Lib.decodeL_le _ (drop_ne s pos hp)
            rw [Lib.decodeL_drop] at hst hvt hwle
            have hwd := width_pos s pos hp
            rw [List.length_drop] at hwle
            have hlen : s.data.toList.length = s.size := by simp
            rw [List.drop_drop] at hst hvt
            generalize (Utf8.decode s pos).1 = r at hst hvt hnx
            generalize (Utf8.decode s pos).2 = d at hst hvt hnx hwd hwle
            have hnv : ¬ (r = 65533 ∧ d = 1) := fun h => by rw [if_pos h] at hvt; exact absurd hvt (by decide)
            rw [if_neg hnv] at hvt
            have HV2 := hide hvt
            by_cases hbad : r < 32 ∨ r = 127 ∨ r = 47
            · have hbt : badR r d = true := by unfold badR; rcases hbad with h | h | h <;> simp [h]
              rw [if_pos hbt] at hst
              have hl := HL.out
              rw [hst] at hl
              have hRf := HN.out hl
              subst hRf
              clear hst hl hvt hbt hnv HN HI hlen
              rcases hbad with h | h | h
              · have hz : (r : Int) < 32 := by omega
                go_wp2
                go_ret
                exact ⟨rfl, hbel.alloc hbel.size _⟩
              · subst h
                go_wp2
                go_ret
                exact ⟨rfl, hbel.alloc hbel.size _⟩
              · subst h
                go_wp2
                go_ret
                exact ⟨rfl, hbel.alloc hbel.size _⟩
            · have hbt : ¬ badR r d = true := by
                unfold badR
                simp
                omega
              rw [if_neg hbt] at hst
              have HST := hide hst
              have hz1 : ¬ (r : Int) < 32 := by omega
              have hz2 : ((r : Int) == 127) = false := beq_eq_false_iff_ne.2 (by omega)
              have hz3 : ((r : Int) == 47) = false := beq_eq_false_iff_ne.2 (by omega)
              clear hst hvt hbt hnv HN HI hbad
              go_wp2
              go_roundw
              case rel =>
                refine ⟨pos + d, q + 1, rfl, by go_num, by omega, by omega, ?_, HV2⟩
                show _ = _
                rw [HL.out, HST.out]
                cases letters (List.drop (pos + d) s.data.toList) with
                | none => rfl
                | some x => simp; omega
              case measure => simp; omega
          · have hnx : ∀ ty, (Instr.next (.pointer (some ⟨w1.heap.size, 0, none⟩)) true ty).run Tryd.prog (w1.iter s pos) = _ := fun ty => run_next_end w1 s pos ty hp
            have hRv := HI.out q (by rw [HL.out, List.drop_eq_nil_of_le (by simp; omega), letters_nil]; simp)
            subst hRv
            clear HN HI
            by_cases hq1 : (1 : Int) ≤ q
            · have hd : decide ((1 : Int) ≤ q) = true := by simpa using hq1
              go_wp2
              go_ret
              exact ⟨by rw [hd]; rfl, hbel.alloc hbel.size _⟩
            · have hd : decide ((1 : Int) ≤ q) = false := by simpa using hq1
              go_wp2
              go_ret
              exact ⟨rfl, hbel.alloc hbel.size _⟩
      · have hvf : Lib.validD s.data.toList = false := by simpa using hv
        have hf : isNameB s.data.toList = false := isNameB_none _ (letters_invalid _ _ (Nat.le_refl _) hvf)
        rw [hf]
        rw [hvf] at cV
        clear hf hvf hv h1 h2 hT
        go_enter Tryd.func43, Tryd.ntmps43
        go_wp2_with fail
        refine cV.out.mono ?_
        rintro e w1 ⟨rfl, hbel⟩
        clear cV
        go_wp2
        go_ret
        exact ⟨rfl, hbel⟩
end Go.Proofs.YtpbjdfobbnpjfaaDoor
