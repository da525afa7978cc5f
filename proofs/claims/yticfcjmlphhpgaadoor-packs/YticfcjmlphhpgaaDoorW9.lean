/-
  WALKS, 9: the document's answer: what may stand with a node; names.
-/
import Derived.Test.YticfcjmlphhpgaaDoorW8
import Derived.Test.YticfcjmlphhpgaaDoorM6
namespace Go.Proofs.YticfcjmlphhpgaaDoor
open Go.RowKit

theorem bt_at (s : ByteArray) (p : Nat) (h : p < s.size) : bt s.data.toList p = s[p].toNat := by
  unfold bt; rw [List.getD_eq_getElem?_getD, get?_of s p h]; rfl

set_option maxRecDepth 20000 in
set_option maxHeartbeats 400000 in
theorem filled_any (k : Int) (d : ByteArray) (w : World) (hs : d.size ≤ 1000000000) : Calls Tryd.prog 32 #[.int .i64 k, .string d] w fun e w' => e = .returned (.bool (fits k d.data.toList)) ∧ w' = w := by
  have hl : d.data.toList.length = d.size := by simp
  by_cases h1 : k = 1
  · subst h1
    have hf : fits 1 d.data.toList = decide ((d.size : Int) ≤ 100) := by simp [fits]; omega
    rw [hf]
    clear hf hl
    go_enter Tryd.func32, Tryd.ntmps32
    go_wp2
    go_ret
    exact ⟨rfl, rfl⟩
  · have h1b : (k == 1) = false := beq_eq_false_iff_ne.2 h1
    by_cases h2 : k = 2
    · subst h2
      have hf : fits 2 d.data.toList = decide ((d.size : Int) ≤ 100) := by simp [fits]; omega
      rw [hf]
      clear hf hl h1
      go_enter Tryd.func32, Tryd.ntmps32
      go_wp2
      go_ret
      exact ⟨rfl, rfl⟩
    · have h2b : (k == 2) = false := beq_eq_false_iff_ne.2 h2
      by_cases h3 : k = 3
      · subst h3
        obtain ⟨R, hR⟩ : ∃ R, fits 3 d.data.toList = R := ⟨_, rfl⟩
        rw [hR]
        have H0 : Hid ((0 : UInt8) ∈ d.data.toList → R = false) := fun h => by rw [← hR]; simp [fits, h]
        have H1 : Hid (¬ (0 : UInt8) ∈ d.data.toList → R = (decide ((1 : Int) ≤ d.size) && decide ((d.size : Int) ≤ 100))) := fun h => by
          rw [← hR]
          have e1 : decide (d.data.toList ≠ []) = decide ((1 : Int) ≤ d.size) := decide_eq_decide.2 (by rw [ne_eq, ← List.length_eq_zero_iff, hl]; omega)
          have e2 : decide (d.data.toList.length ≤ 100) = decide ((d.size : Int) ≤ 100) := decide_eq_decide.2 (by rw [hl]; omega)
          unfold fits
          rw [if_pos rfl, e1, e2, decide_eq_true h, Bool.and_true]
        clear hR h1 h2 hl
        go_enter Tryd.func32, Tryd.ntmps32
        go_wp2
        go_loop [5] (fun i => ∃ j : Nat, j ≤ d.size ∧ i = .int .i64 j ∧ Hid (∀ p (hp : p < d.size), p < j → d[p].toNat ≠ 0)) (fun i => d.size - (intOf i).toNat)
        case atStart => exact ⟨0, by omega, rfl, fun p _ h => by omega⟩
        case round =>
          obtain ⟨j, hj, rfl, hno⟩ := hrel
          by_cases hlt : j < d.size
          · by_cases hz : d[j].toNat = 0
            · have hzb : ((d[j].toNat : Int) == 0) = true := by simp [hz]
              have hRf := H0.out (by
                have e : d[j] = 0 := UInt8.toNat_inj.1 hz
                rw [← e]
                exact List.mem_of_getElem? (get?_of d j hlt))
              subst hRf
              clear H0 H1 hz
              go_wp2
              go_ret
              exact ⟨rfl, rfl⟩
            · have hzb : ((d[j].toNat : Int) == 0) = false := beq_eq_false_iff_ne.2 (by omega)
              have hno' : Hid (∀ p (hp : p < d.size), p < j + 1 → d[p].toNat ≠ 0) := fun p hp h => by
                by_cases e : p = j
                · subst e; exact hz
                · exact hno.out p hp (by omega)
              clear hz
              go_wp2
              go_round
              case rel => exact ⟨j + 1, by omega, by go_num, hno'⟩
              case measure => simp [intOf]; omega
          · have hRv := H1.out (fun hm => by
              obtain ⟨p, hp, e⟩ := List.getElem_of_mem hm
              have hp' : p < d.size := by simpa using hp
              exact hno.out p hp' (by omega) (by
                have : d[p] = 0 := e
                rw [this]; rfl))
            subst hRv
            clear H0 H1
            by_cases h1z : (1 : Int) ≤ d.size
            · have hd : decide ((1 : Int) ≤ d.size) = true := decide_eq_true h1z
              go_wp2
              go_ret
              exact ⟨by first | rfl | (rw [hd]; rfl), rfl⟩
            · have hd : decide ((1 : Int) ≤ d.size) = false := decide_eq_false h1z
              go_wp2
              go_ret
              exact ⟨by first | rfl | (rw [hd]; rfl), rfl⟩
      · have h3b : (k == 3) = false := beq_eq_false_iff_ne.2 h3
        by_cases h4 : k = 4
        · subst h4
          have hf : fits 4 d.data.toList = d.toList.isEmpty := by rw [ByteArray.toList_eq]; cases hh : d.data.toList <;> simp [fits]
          rw [hf]
          clear hf hl h3 h1 h2
          go_enter Tryd.func32, Tryd.ntmps32
          go_wp2
          go_ret
          exact ⟨rfl, rfl⟩
        · have h4b : (k == 4) = false := beq_eq_false_iff_ne.2 h4
          have hf : fits k d.data.toList = false := by simp [fits, h1, h2, h3, h4]
          rw [hf]
          clear hf hl h3 h1 h2 h4
          go_enter Tryd.func32, Tryd.ntmps32
          go_wp2
          go_ret
          exact ⟨rfl, rfl⟩
end Go.Proofs.YticfcjmlphhpgaaDoor
