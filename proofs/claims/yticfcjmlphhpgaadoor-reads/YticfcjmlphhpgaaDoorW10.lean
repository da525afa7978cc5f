/-
  WALKS, 10: the document's answer: names; is a node right?
-/
import Derived.Test.YticfcjmlphhpgaaDoorW9L
import Derived.Test.YticfcjmlphhpgaaDoorM9
namespace Go.Proofs.YticfcjmlphhpgaaDoor
open Go.RowKit

set_option maxRecDepth 20000 in
set_option maxHeartbeats 1000000 in
theorem Name_any (s : ByteArray) (w : World) (hs : s.size ≤ 1000000000) : Calls Tryd.prog 34 #[.string s] w fun e w' => e = .returned (.bool (isNameB s.data.toList)) ∧ w' = w := by
  have cL := hide (letters_any s w hs)
  cases hl : letters s.data.toList with
  | none =>
    rw [hl] at cL
    rw [isNameB_none _ hl]
    unfold lRes at cL
    clear hl
    go_enter Tryd.func34, Tryd.ntmps34
    go_wp2_with fail
    refine cL.out.mono ?_
    rintro e w1 ⟨rfl, rfl⟩
    clear cL
    go_wp2
    go_ret
    exact ⟨rfl, rfl⟩
  | some n =>
    rw [hl] at cL
    unfold lRes at cL
    by_cases h1 : (1 : Int) ≤ n
    · have hd1 : decide ((1 : Int) ≤ n) = true := decide_eq_true h1
      by_cases h12 : (n : Int) ≤ 12
      · have hd2 : decide ((n : Int) ≤ 12) = true := decide_eq_true h12
        by_cases e1 : s.data.toList = [46]
        · have hb : (s.toList == [46]) = true := by rw [ByteArray.toList_eq, e1]; rfl
          have hf : isNameB s.data.toList = false := by rw [e1]; rfl
          rw [hf]
          clear hl e1 hf
          go_enter Tryd.func34, Tryd.ntmps34
          go_wp2_with fail
          refine cL.out.mono ?_
          rintro e w1 ⟨rfl, rfl⟩
          clear cL
          go_wp2
          go_ret
          exact ⟨rfl, rfl⟩
        · have hb : (s.toList == [46]) = false := by rw [ByteArray.toList_eq]; exact beq_eq_false_iff_ne.2 e1
          by_cases e2 : s.data.toList = [46, 46]
          · have hb2 : (s.toList == [46, 46]) = true := by rw [ByteArray.toList_eq, e2]; rfl
            have hf : isNameB s.data.toList = false := by rw [e2]; rfl
            rw [hf]
            clear hl e1 hf e2
            go_enter Tryd.func34, Tryd.ntmps34
            go_wp2_with fail
            refine cL.out.mono ?_
            rintro e w1 ⟨rfl, rfl⟩
            clear cL
            go_wp2
            go_ret
            exact ⟨rfl, rfl⟩
          · have hb2 : (s.toList == [46, 46]) = false := by rw [ByteArray.toList_eq]; exact beq_eq_false_iff_ne.2 e2
            have hf : isNameB s.data.toList = true := by rw [isNameB_some _ n hl e1 e2, hd1, hd2]; rfl
            rw [hf]
            clear hl e1 hf e2
            go_enter Tryd.func34, Tryd.ntmps34
            go_wp2_with fail
            refine cL.out.mono ?_
            rintro e w1 ⟨rfl, rfl⟩
            clear cL
            go_wp2
            go_ret
            exact ⟨rfl, rfl⟩
      · have hd2 : decide ((n : Int) ≤ 12) = false := decide_eq_false h12
        have hf : isNameB s.data.toList = false := by
          have : decide (n ≤ 12) = false := decide_eq_false (by omega)
          simp [isNameB, hl, this]
        rw [hf]
        clear hl hf
        go_enter Tryd.func34, Tryd.ntmps34
        go_wp2_with fail
        refine cL.out.mono ?_
        rintro e w1 ⟨rfl, rfl⟩
        clear cL
        go_wp2
        go_ret
        exact ⟨rfl, rfl⟩
    · have hd1 : decide ((1 : Int) ≤ n) = false := decide_eq_false h1
      have hf : isNameB s.data.toList = false := by
        have : decide (1 ≤ n) = false := decide_eq_false (by omega)
        simp [isNameB, hl, this]
      rw [hf]
      clear hl hf
      go_enter Tryd.func34, Tryd.ntmps34
      go_wp2_with fail
      refine cL.out.mono ?_
      rintro e w1 ⟨rfl, rfl⟩
      clear cL
      go_wp2
      go_ret
      exact ⟨rfl, rfl⟩
end Go.Proofs.YticfcjmlphhpgaaDoor
