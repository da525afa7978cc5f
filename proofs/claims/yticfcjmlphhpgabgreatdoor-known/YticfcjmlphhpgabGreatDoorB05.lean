import Derived.Test.YticfcjmlphhpgabGreatDoorB04
import Derived.Laws.BitsAllLaws
import Derived.RangeFuncNested
import Derived.RangeFuncBound
import Derived.RangeFuncCalls
import Derived.RangeFuncLeaves
import Derived.Shelf.Abstract
import Derived.WalkKit
import Derived.OwnWalkIn
import Derived.TacticsInMore
import Derived.LoopNIn
import Derived.LoopIn
import Derived.Laws.EntriesVeiled
namespace Go.Proofs.YticfcjmlphhpgabGreatDoor
open Go.RowKit

/-- Bytes in memory. -/
def BytesAt (w : World) (g o : Nat) (l : Bs) : Prop := ∀ i (h : i < l.length), w.cell? ⟨g, o + i, none⟩ = some (.int .u8 (l[i].toNat : Int))

set_option maxRecDepth 20000 in
set_option maxHeartbeats 400000 in
theorem allZero_any (w : World) (g o cap : Nat) (l : Bs) (h : BytesAt w g o l) (hl : l.length ≤ 1000000000000) :
    Calls Tryz.prog 127 #[.slice (some ⟨g, o, none⟩) l.length cap] w fun e w' => e = .returned (.bool (l.all (· == 0))) ∧ w' = w := by
  have H := hide h
  obtain ⟨Z, hZ⟩ : ∃ Z, l.all (· == 0) = Z := ⟨_, rfl⟩
  rw [hZ]
  have HZ := hide hZ
  clear h hZ
  go_enter Tryz.func127, Tryz.ntmps127
  go_wp2
  go_loop [4, 7] (fun _ i => ∃ k : Nat, k ≤ l.length ∧ i = .int .i64 k ∧ Hid ((l.take k).all (· == 0) = true)) (fun _ i => l.length - (intOf i).toNat)
  case atStart => exact ⟨0, by omega, rfl, by show _ = _; simp⟩
  case round =>
    obtain ⟨k, hk, rfl, ha⟩ := hrel
    by_cases hlt : k < l.length
    · have hc := H.out k hlt
      have hz : (k : Int) < l.length := by omega
      have htk : l.take (k + 1) = l.take k ++ [l[k]] := List.take_succ_eq_append_getElem hlt
      by_cases h0 : l[k] = 0
      · have hb : ((l[k].toNat : Int) == 0) = true := by rw [h0]; rfl
        have ha' : Hid ((l.take (k + 1)).all (· == 0) = true) := by
          show _ = _
          rw [htk, List.all_append, ha.out, h0]; rfl
        rw [h0] at hc
        clear h0 htk hb
        go_wp2
        go_round
        case rel => exact ⟨k + 1, by omega, by go_num, ha'⟩
        case measure => simp [intOf]; omega
      · have hne : ¬ (l[k].toNat : Int) = 0 := fun e => h0 (by rw [← UInt8.toNat_inj]; show l[k].toNat = 0; omega)
        have hf : l.all (· == 0) = false := by
          rw [Bool.eq_false_iff]
          intro e
          exact h0 (by simpa using List.all_eq_true.1 e l[k] (List.getElem_mem _))
        obtain rfl : Z = false := by rw [← HZ.out, hf]
        have hb : ((l[k].toNat : Int) == 0) = false := beq_eq_false_iff_ne.2 hne
        clear h0 htk hf ha
        go_wp2
        go_ret
        exact ⟨rfl, rfl⟩
    · obtain rfl : k = l.length := by omega
      have ha' := ha.out
      rw [List.take_length] at ha'
      obtain rfl : Z = true := by rw [← HZ.out, ha']
      clear ha ha'
      go_wp2
      go_ret
      exact ⟨rfl, rfl⟩

theorem num8_snoc : ∀ (l : Bs) (b : UInt8), num8 (l ++ [b]) = num8 l + b.toNat * 256 ^ l.length
  | [], b => by simp [num8]
  | a :: r, b => by
    rw [List.cons_append, num8, num8, num8_snoc r b, List.length_cons, Nat.pow_succ, Nat.mul_add, Nat.add_assoc]
    congr 2
    rw [Nat.mul_comm (256 ^ r.length) 256, ← Nat.mul_assoc, Nat.mul_comm 256 b.toNat, Nat.mul_assoc]
theorem or_step (a b k : Nat) (ha : a < 256 ^ k) (hb : b < 256) (hk : k < 8) : bits .or .u64 (a : Int) (IntKind.u64.wrap (IntKind.u64.wrap (b : Int) * 2 ^ (8 * k))) = ((a + b * 256 ^ k : Nat) : Int) := by
  have e256 : (256 : Nat) ^ k = 2 ^ (8 * k) := by rw [Nat.pow_mul]
  have hp : (256 : Nat) ^ k ≤ 256 ^ 7 := Nat.pow_le_pow_right (by omega) (by omega)
  have h7 : (256 : Nat) ^ 7 = 72057594037927936 := by decide
  have hpos : 0 < (256 : Nat) ^ k := Nat.pow_pos (by omega)
  have hb' : b * 256 ^ k ≤ 255 * 256 ^ k := Nat.mul_le_mul_right _ (by omega)
  have e1 : IntKind.u64.wrap (b : Int) = (b : Int) := by rw [IntKind.wrap_u64]; omega
  have e2 : (b : Int) * 2 ^ (8 * k) = ((b * 256 ^ k : Nat) : Int) := by rw [e256]; simp
  rw [e1, e2]
  generalize hP : (256 : Nat) ^ k = P at *
  have e3 : IntKind.u64.wrap ((b * P : Nat) : Int) = ((b * P : Nat) : Int) := by rw [IntKind.wrap_u64]; omega
  rw [e3, u64_or_nat a (b * P) (by omega) (by omega)]
  congr 1
  have := Nat.shiftLeft_add_eq_or_of_lt (b := a) (i := 8 * k) (by rw [← e256]; exact ha) b
  rw [Nat.shiftLeft_eq, ← e256] at this
  rw [Nat.or_comm, ← this, Nat.add_comm]
set_option maxRecDepth 20000 in
set_option maxHeartbeats 400000 in
theorem number_any (w : World) (g o : Nat) (l : Bs) (h : BytesAt w g o l) (hl : l.length = 8) :
    Calls Tryz.prog 126 #[.slice (some ⟨g, o, none⟩) 8 8] w fun e w' => e = .returned (.int .u64 (num8 l : Nat)) ∧ w' = w := by
  have H := hide h
  clear h
  go_enter Tryz.func126, Tryz.ntmps126
  go_wp2
  go_loop [3, 4, 5] (fun n _ i => ∃ k : Nat, k ≤ 8 ∧ i = .int .i64 k ∧ n = .int .u64 (num8 (l.take k) : Nat)) (fun _ _ i => 8 - (intOf i).toNat)
  case atStart => exact ⟨0, by omega, rfl, rfl⟩
  case round =>
    obtain ⟨k, hk, rfl, rfl⟩ := hrel
    by_cases hlt : k < 8
    · have hc := H.out k (by omega)
      have hb := or_step (num8 (l.take k)) l[k].toNat k (by have := num8_lt (l.take k); rwa [List.length_take, Nat.min_eq_left (by omega)] at this) l[k].toNat_lt hlt
      have hs := num8_snoc (l.take k) l[k]
      rw [← List.take_succ_eq_append_getElem (by omega), List.length_take, Nat.min_eq_left (by omega)] at hs
      rw [← hs] at hb
      have HB := hide hb
      clear hb hs
      go_wp2
      go_round
      case rel => exact ⟨k + 1, by omega, by go_num, by rw [HB.out]⟩
      case measure => simp [intOf]; omega
    · obtain rfl : k = 8 := by omega
      have e : l.take 8 = l := List.take_of_length_le (by omega)
      rw [e]
      go_wp2
      go_ret
      exact ⟨rfl, rfl⟩
end Go.Proofs.YticfcjmlphhpgabGreatDoor
namespace Go.Proofs.YticfcjmlphhpgabGreatDoor
open Go.RowKit

theorem BytesAt.take {w : World} {g o : Nat} {l : Bs} (h : BytesAt w g o l) (n : Nat) : BytesAt w g o (l.take n) := fun i hi => by
  rw [List.length_take] at hi
  rw [List.getElem_take]; exact h i (by omega)
theorem BytesAt.drop {w : World} {g o : Nat} {l : Bs} (h : BytesAt w g o l) (n : Nat) : BytesAt w g (o + n) (l.drop n) := fun i hi => by
  rw [List.length_drop] at hi
  rw [List.getElem_drop, Nat.add_assoc]; exact h (n + i) (by omega)
theorem BytesAt.nil (w : World) (g o : Nat) : BytesAt w g o [] := fun i hi => by simp at hi
theorem BytesAt.drewN {w : World} {g o : Nat} {l : Bs} (h : BytesAt w g o l) (n : Nat) : BytesAt (w.drewN n) g o l := fun i hi => by
  have := h i hi
  rwa [show (w.drewN n).cell? ⟨g, o + i, none⟩ = w.cell? ⟨g, o + i, none⟩ by simp]
theorem BytesAt.setCell {w : World} {g o : Nat} {l : Bs} (h : BytesAt w g o l) (a : Addr) (v : Value) (ha : a.block ≠ g) : BytesAt (w.setCell a v) g o l := fun i hi => by
  rw [World.cell?_setCell_other _ _ _ _ (fun e => ha (by rw [e]))]; exact h i hi
theorem conv_bytes (W : World) (g o n cap : Nat) (s : Bs) (hn : n = s.length) (h : BytesAt W g o s) : (convert 39 9 (.slice (some ⟨g, o, none⟩) n cap)).run Tryz.prog W = .ok (.string ⟨s.toArray⟩) W := by
  subst hn
  refine run_convert_bytes_back (P := Tryz.prog) _ 39 9 5 ⟨g, o, none⟩ cap s Tryz.underlying39 Tryz.underlying5 Tryz.underlying9 (fun j hj => ?_)
  have ha : (⟨g, o, none⟩ : Addr).add j = ⟨g, o + j, none⟩ := by unfold Addr.add; split <;> simp_all
  rw [ha]; exact h j hj
theorem padLen_8 (n : Nat) : padLen (8 + n) = padLen n := by unfold padLen; omega

def cutRes : Ct → Value
  | .wait => .tuple #[.string ⟨#[]⟩, .int .i64 2]
  | .bad e => .tuple #[.string ⟨#[]⟩, .int .i64 e]
  | .ok s _ _ => .tuple #[.string ⟨s.toArray⟩, .int .i64 0]

set_option maxRecDepth 20000 in
set_option maxHeartbeats 1000000 in
theorem Cut_any (w : World) (R g o cap most : Nat) (l : Bs) (pos : Nat) (c0 : w.cell? ⟨R, 0, none⟩ = some (.slice (some ⟨g, o, none⟩) l.length cap)) (c1 : w.cell? ⟨R, 1, none⟩ = some (.int .i64 pos))
    (f0 : w.frozen? ⟨R, 0, none⟩ = false) (f1 : w.frozen? ⟨R, 1, none⟩ = false) (h : BytesAt w g o l) (hcap : l.length ≤ cap) (hl : l.length ≤ 1000000000) (hp : pos ≤ 1000000000) (hm : most ≤ 100) (hgR : R ≠ g) :
    Calls Tryz.prog 106 #[.pointer (some ⟨R, 0, none⟩), .int .i64 most] w fun e w' => e = .returned (cutRes (cutF l most)) ∧
      ∃ q, match cutF l most with
        | .ok _ rest n => ∃ o' cap', w' = ((w.drewN q).setCell ⟨R, 0, none⟩ (.slice (some ⟨g, o', none⟩) rest.length cap')).setCell ⟨R, 1, none⟩ (.int .i64 ((pos + n : Nat) : Int)) ∧ BytesAt w g o' rest ∧ rest.length ≤ cap'
        | _ => w' = w.drewN q := by
  obtain ⟨C, hC⟩ : ∃ C, cutF l most = C := ⟨_, rfl⟩
  rw [hC]
  unfold cutF at hC
  have H := hide h
  have h8l : (l.take 8).length = min 8 l.length := List.length_take
  clear h
  by_cases h8 : l.length < 8
  · rw [if_pos h8] at hC
    subst hC
    clear h8l
    have h8z : (l.length : Int) < 8 := by omega
    go_enter Tryz.func106, Tryz.ntmps106
    go_wp2
    go_ret2
    exact ⟨rfl, 0, rfl⟩
  · rw [if_neg h8] at hC
    have h8z : ¬ (l.length : Int) < 8 := by omega
    have h8c : 8 ≤ cap := by omega
    have cN := hide (number_any w g o (l.take 8) (H.out.take 8) (by omega))
    have hnl := num8_lt (l.take 8)
    rw [show (l.take 8).length = 8 by omega] at hnl
    generalize num8 (l.take 8) = N at cN hC hnl
    clear h8l
    have hnl' : N < 18446744073709551616 := hnl
    clear hnl
    by_cases hmN : most < N
    · rw [if_pos hmN] at hC
      subst hC
      have hz : (most : Int) < N := by omega
      go_enter Tryz.func106, Tryz.ntmps106
      go_wp2_with fail
      refine cN.out.mono ?_
      rintro e w1 ⟨rfl, rfl⟩
      clear cN
      go_wp2
      go_ret2
      exact ⟨rfl, 0, rfl⟩
    · rw [if_neg hmN] at hC
      have hz : ¬ (most : Int) < N := by omega
      have hwr : IntKind.i64.wrap (N : Int) = N := by rw [IntKind.wrap_i64]; omega
      have cF := hide (filling_any (8 + N) w (by omega))
      rw [padLen_8] at cF
      have hpl : padLen N < 8 := by unfold padLen; omega
      by_cases hW : l.length < wholeOf N
      · rw [if_pos hW] at hC
        subst hC
        unfold wholeOf at hW
        generalize padLen N = P at cF hpl hW
        have hWz : (l.length : Int) < 8 + N + P := by omega
        go_enter Tryz.func106, Tryz.ntmps106
        go_wp2_with fail
        refine cN.out.mono ?_
        rintro e w1 ⟨rfl, rfl⟩
        clear cN
        go_wp2_with fail
        refine cF.out.mono ?_
        rintro e w2 ⟨rfl, rfl⟩
        clear cF
        go_wp2
        go_ret2
        exact ⟨rfl, 0, rfl⟩
      · rw [if_neg hW] at hC
        unfold wholeOf at hW hC
        generalize hP : padLen N = P at cF hpl hW hC
        have hWz : ¬ (l.length : Int) < 8 + N + P := by omega
        have HC := hide hC
        clear hC
        have hNl : ((l.drop 8).take N).length = N := by rw [List.length_take, List.length_drop]; omega
        have hRl : (l.drop (8 + N + P)).length = l.length - (8 + N + P) := List.length_drop
        have hZl : ((l.take (8 + N + P)).drop (8 + N)).length = P := by rw [List.length_drop, List.length_take]; omega
        by_cases hall : ((l.take (8 + N + P)).drop (8 + N)).all (· == 0) = true
        · have hC := HC.out
          rw [if_pos hall] at hC
          subst hC
          clear HC
          have HCast := hide (show ((pos + (8 + N + P) : Nat) : Int) = (pos : Int) + (8 + N + P) by omega)
          by_cases hP0 : P = 0
          · subst hP0
            simp only [Nat.add_zero, Int.natCast_zero, Int.add_zero] at *
            by_cases hN0 : N = 0
            · subst hN0
              have hconv : ∀ q X Y o2, (convert 39 9 (.slice (some ⟨g, o2, none⟩) 0 0)).run Tryz.prog (((w.drewN q).setCell ⟨R, 0, none⟩ X).setCell ⟨R, 1, none⟩ Y) = .ok (.string ⟨#[]⟩) (((w.drewN q).setCell ⟨R, 0, none⟩ X).setCell ⟨R, 1, none⟩ Y) := fun q X Y o2 => conv_bytes _ g o2 0 0 [] rfl (BytesAt.nil _ _ _)
              have hs0 : (l.drop 8).take 0 = [] := rfl
              rw [hs0]
              simp only [Nat.add_zero, Int.natCast_zero, Int.add_zero] at *
              have cZ := hide (fun q o2 => allZero_any (w.drewN q) g o2 0 [] (BytesAt.nil _ _ _) (by simp))
              clear hNl hall hZl
              by_cases hcw : cap = 8
              · subst hcw
                go_enter Tryz.func106, Tryz.ntmps106
                go_wp2_with fail
                refine cN.out.mono ?_
                rintro e w1 ⟨rfl, rfl⟩
                clear cN
                go_wp2_with fail
                refine cF.out.mono ?_
                rintro e w2 ⟨rfl, rfl⟩
                clear cF
                go_wp2
                go_quiet (fail)
                go_wp2_with fail
                refine (cZ.out nq _).mono ?_
                rintro e w3 ⟨rfl, rfl⟩
                clear cZ
                go_wp2
                go_ret2
                refine ⟨rfl, nq, o, 0, (by rw [hRl, HCast.out, show l.length - 8 = 0 by omega]), (by rw [List.drop_eq_nil_of_le (by omega)]; exact BytesAt.nil _ _ _), by omega⟩
              · skip
                go_enter Tryz.func106, Tryz.ntmps106
                go_wp2_with fail
                refine cN.out.mono ?_
                rintro e w1 ⟨rfl, rfl⟩
                clear cN
                go_wp2_with fail
                refine cF.out.mono ?_
                rintro e w2 ⟨rfl, rfl⟩
                clear cF
                go_wp2
                go_quiet (fail)
                go_wp2_with fail
                refine (cZ.out nq _).mono ?_
                rintro e w3 ⟨rfl, rfl⟩
                clear cZ
                go_wp2
                go_ret2
                refine ⟨rfl, nq, _, _, (by rw [hRl, HCast.out]), H.out.drop _, by omega⟩
            · have hconv : ∀ q X Y, (convert 39 9 (.slice (some ⟨g, o + 8, none⟩) N N)).run Tryz.prog (((w.drewN q).setCell ⟨R, 0, none⟩ X).setCell ⟨R, 1, none⟩ Y) = .ok (.string ⟨((l.drop 8).take N).toArray⟩) (((w.drewN q).setCell ⟨R, 0, none⟩ X).setCell ⟨R, 1, none⟩ Y) := fun q X Y => conv_bytes _ g (o + 8) N N _ hNl.symm (((((H.out.drewN q).drop 8).take N).setCell _ _ hgR).setCell _ _ hgR)
              generalize (l.drop 8).take N = sN at hconv
              have hsub : 8 + N - 8 = N := by omega
              have cZ := hide (fun q o2 => allZero_any (w.drewN q) g o2 0 [] (BytesAt.nil _ _ _) (by simp))
              clear hNl hall hZl
              by_cases hcw : cap = 8 + N
              · subst hcw
                go_enter Tryz.func106, Tryz.ntmps106
                go_wp2_with fail
                refine cN.out.mono ?_
                rintro e w1 ⟨rfl, rfl⟩
                clear cN
                go_wp2_with fail
                refine cF.out.mono ?_
                rintro e w2 ⟨rfl, rfl⟩
                clear cF
                go_wp2
                go_quiet (fail)
                go_wp2_with fail
                refine (cZ.out nq _).mono ?_
                rintro e w3 ⟨rfl, rfl⟩
                clear cZ
                go_wp2
                go_ret2
                refine ⟨rfl, nq, o, 0, (by rw [hRl, HCast.out, show l.length - (8 + N) = 0 by omega]), (by rw [List.drop_eq_nil_of_le (by omega)]; exact BytesAt.nil _ _ _), by omega⟩
              · skip
                go_enter Tryz.func106, Tryz.ntmps106
                go_wp2_with fail
                refine cN.out.mono ?_
                rintro e w1 ⟨rfl, rfl⟩
                clear cN
                go_wp2_with fail
                refine cF.out.mono ?_
                rintro e w2 ⟨rfl, rfl⟩
                clear cF
                go_wp2
                go_quiet (fail)
                go_wp2_with fail
                refine (cZ.out nq _).mono ?_
                rintro e w3 ⟨rfl, rfl⟩
                clear cZ
                go_wp2
                go_ret2
                refine ⟨rfl, nq, _, _, (by rw [hRl, HCast.out]), H.out.drop _, by omega⟩
          · have hN0 : ¬ N = 0 := fun e => hP0 (by rw [← hP, e]; rfl)
            by_cases hcw : cap = 8 + N + P
            · subst hcw
              have cZ := hide (fun q => allZero_any (w.drewN q) g (o + (8 + N)) P ((l.take (8 + N + P)).drop (8 + N)) (((H.out.drewN q).take _).drop _) (by omega))
              rw [hZl, hall] at cZ
              have hconv : ∀ q X Y, (convert 39 9 (.slice (some ⟨g, o + 8, none⟩) N N)).run Tryz.prog (((w.drewN q).setCell ⟨R, 0, none⟩ X).setCell ⟨R, 1, none⟩ Y) = .ok (.string ⟨((l.drop 8).take N).toArray⟩) (((w.drewN q).setCell ⟨R, 0, none⟩ X).setCell ⟨R, 1, none⟩ Y) := fun q X Y => conv_bytes _ g (o + 8) N N _ hNl.symm (((((H.out.drewN q).drop 8).take N).setCell _ _ hgR).setCell _ _ hgR)
              generalize (l.drop 8).take N = sN at hconv
              have hsub : 8 + N - 8 = N := by omega
              clear hNl hall
              go_enter Tryz.func106, Tryz.ntmps106
              go_wp2_with fail
              refine cN.out.mono ?_
              rintro e w1 ⟨rfl, rfl⟩
              clear cN
              go_wp2_with fail
              refine cF.out.mono ?_
              rintro e w2 ⟨rfl, rfl⟩
              clear cF
              go_wp2
              go_quiet (fail)
              go_wp2_with fail
              refine (cZ.out nq ).mono ?_
              rintro e w3 ⟨rfl, rfl⟩
              clear cZ
              go_wp2
              go_ret2
              refine ⟨rfl, nq, o, 0, (by rw [hRl, HCast.out, show l.length - (8 + N + P) = 0 by omega]), (by rw [List.drop_eq_nil_of_le (by omega)]; exact BytesAt.nil _ _ _), by omega⟩
            · skip
              have cZ := hide (fun q => allZero_any (w.drewN q) g (o + (8 + N)) P ((l.take (8 + N + P)).drop (8 + N)) (((H.out.drewN q).take _).drop _) (by omega))
              rw [hZl, hall] at cZ
              have hconv : ∀ q X Y, (convert 39 9 (.slice (some ⟨g, o + 8, none⟩) N N)).run Tryz.prog (((w.drewN q).setCell ⟨R, 0, none⟩ X).setCell ⟨R, 1, none⟩ Y) = .ok (.string ⟨((l.drop 8).take N).toArray⟩) (((w.drewN q).setCell ⟨R, 0, none⟩ X).setCell ⟨R, 1, none⟩ Y) := fun q X Y => conv_bytes _ g (o + 8) N N _ hNl.symm (((((H.out.drewN q).drop 8).take N).setCell _ _ hgR).setCell _ _ hgR)
              generalize (l.drop 8).take N = sN at hconv
              have hsub : 8 + N - 8 = N := by omega
              clear hNl hall
              go_enter Tryz.func106, Tryz.ntmps106
              go_wp2_with fail
              refine cN.out.mono ?_
              rintro e w1 ⟨rfl, rfl⟩
              clear cN
              go_wp2_with fail
              refine cF.out.mono ?_
              rintro e w2 ⟨rfl, rfl⟩
              clear cF
              go_wp2
              go_quiet (fail)
              go_wp2_with fail
              refine (cZ.out nq ).mono ?_
              rintro e w3 ⟨rfl, rfl⟩
              clear cZ
              go_wp2
              go_ret2
              refine ⟨rfl, nq, _, _, (by rw [hRl, HCast.out]), H.out.drop _, by omega⟩
        · have hC := HC.out
          rw [if_neg hall] at hC
          subst hC
          clear HC
          have hallf : ((l.take (8 + N + P)).drop (8 + N)).all (· == 0) = false := by simpa using hall
          have hP0 : ¬ P = 0 := fun e => by
            rw [List.eq_nil_of_length_eq_zero (hZl.trans e)] at hallf
            simp at hallf
          have hN0 : ¬ N = 0 := fun e => hP0 (by rw [← hP, e]; rfl)
          have cZ := hide (fun q => allZero_any (w.drewN q) g (o + (8 + N)) P ((l.take (8 + N + P)).drop (8 + N)) (((H.out.drewN q).take _).drop _) (by omega))
          rw [hZl, hallf] at cZ
          clear hallf hall hNl
          go_enter Tryz.func106, Tryz.ntmps106
          go_wp2_with fail
          refine cN.out.mono ?_
          rintro e w1 ⟨rfl, rfl⟩
          clear cN
          go_wp2_with fail
          refine cF.out.mono ?_
          rintro e w2 ⟨rfl, rfl⟩
          clear cF
          go_wp2
          go_quiet (fail)
          go_wp2_with fail
          refine (cZ.out nq).mono ?_
          rintro e w3 ⟨rfl, rfl⟩
          clear cZ
          go_wp2
          go_ret2
          exact ⟨rfl, nq, rfl⟩
end Go.Proofs.YticfcjmlphhpgabGreatDoor
namespace Go.Proofs.YticfcjmlphhpgabGreatDoor
open Go.RowKit Go.Shelf

attribute [local go_sem] Oper.semAt_some

/-- An item in memory. -/
structure IV where
  m : Int
  fn : Fn
  first : Array Value
  cap : Array Value
def IV.val (x : IV) : Value := .agg #[.int .i64 x.m, .func x.fn x.first x.cap]
def flatI : List IV → List Value
  | [] => []
  | x :: r => .int .i64 x.m :: .func x.fn x.first x.cap :: flatI r
theorem flatI_append : ∀ a b, flatI (a ++ b) = flatI a ++ flatI b
  | [], b => rfl
  | x :: r, b => by simp [flatI, flatI_append r b]
theorem flatI_get : ∀ (l : List IV) (j : Nat) (x : IV), l[j]? = some x → (flatI l)[j * 2]? = some (.int .i64 x.m) ∧ (flatI l)[j * 2 + 1]? = some (.func x.fn x.first x.cap)
  | [], j, x, h => by simp at h
  | y :: r, 0, x, h => by simp at h; subst h; exact ⟨rfl, rfl⟩
  | y :: r, j + 1, x, h => by
    have := flatI_get r j x (by simpa using h)
    rw [show (j + 1) * 2 = j * 2 + 1 + 1 by omega]
    simpa [flatI] using this
theorem flatI_take : ∀ (l : List IV) (k : Nat), (flatI l).take (k * 2) = flatI (l.take k)
  | [], k => by simp [flatI]
  | x :: r, 0 => by simp [flatI]
  | x :: r, k + 1 => by
    rw [show (k + 1) * 2 = k * 2 + 1 + 1 by omega]
    simp [flatI, flatI_take r k]

/-- What has come when q are left. -/
def bk (its : List IV) : Nat → Nat → List (Nat × IV)
  | _, 0 => []
  | q, k + 1 => bk its (q + 1) k ++ (match its[q]? with | some x => [(q, x)] | none => [])
theorem bk_items (its : List IV) : ∀ (k q : Nat), q + k = its.length → (bk its q k).map (·.2) = (its.drop q).reverse
  | 0, q, h => by rw [List.drop_eq_nil_of_le (by omega)]; rfl
  | k + 1, q, h => by
    have hq : q < its.length := by omega
    rw [bk, List.map_append, bk_items its k (q + 1) (by omega), List.getElem?_eq_getElem hq, List.drop_eq_getElem_cons hq, List.reverse_cons]
    rfl
theorem bk_length (its : List IV) : ∀ (k q : Nat), q + k = its.length → (bk its q k).length = k
  | 0, q, h => rfl
  | k + 1, q, h => by
    have hq : q < its.length := by omega
    rw [bk, List.length_append, bk_length its k (q + 1) (by omega), List.getElem?_eq_getElem hq]; rfl

/-- The two blocks that the iterator reads lie on. -/
def KB (b Bs : Nat) (W W' : World) : Prop := W'.heap[b]? = W.heap[b]? ∧ W'.heap[Bs]? = W.heap[Bs]?
theorem KB.trans {b Bs : Nat} {A B C : World} (h : KB b Bs A B) (k : KB b Bs B C) : KB b Bs A C := ⟨k.1.trans h.1, k.2.trans h.2⟩

theorem Backward_in (F : Fence) (n : Nat) (h5 : F.fn 65) (hro : F.round = none) (a : Option Addr) (len cap : Nat) (w : World) :
    CallsIn F n Tryz.prog 65 #[.slice a len cap] w fun e w' => e = .returned (.func (.func 85) #[] #[.pointer (some ⟨w.heap.size, 0, none⟩)]) ∧ w' = w.alloc (.cells #[.slice a len cap] 79) := by
  have hmf : ∀ (fn : Fn) (first cap : Array Value) (w : World), (Instr.makeFunc fn first cap).run Tryz.prog w = .ok (.func fn first cap) w := fun _ _ _ _ => rfl
  refine callsIn_of_wp Tryz.func65 rfl h5 ?_ hro
  simp only [Tryz.ntmps65, List.size_toArray, List.length_cons, List.length_nil, Nat.reduceAdd, Nat.reduceSub, Array.replicate_succ, Array.replicate_zero, List.push_toArray, List.append_toArray, List.nil_append, List.cons_append]
  gi_wp2
  go_ret
  exact ⟨rfl, rfl⟩

set_option maxRecDepth 100000 in
set_option maxHeartbeats 2000000 in
theorem back1_in (F : Fence) (n : Nat) (h8 : F.fn 85) (hro : F.round = none) (hn : 1 ≤ n) (l Bs b : Nat) (its : List IV) (hlen : its.length ≤ 1000) (J Jx : List (Nat × IV) → World → Prop)
    (hY : ∀ pre x W, J pre W → pre.length < its.length → YieldAt F (n - 1) Tryz.prog l #[.int .i64 (x.1 : Int), x.2.val] W fun e W' =>
      (e = .returned (.bool true) ∧ J (pre ++ [x]) W' ∧ KB b Bs W W') ∨ (e = .returned (.bool false) ∧ Jx (pre ++ [x]) W'))
    (W : World) (hBs : W.heap[Bs]? = some (.cells #[.slice (some ⟨b, 0, none⟩) its.length its.length] 79 (0, 0))) (hb : W.heap[b]? = some (.cells (flatI its).toArray 92 (0, 0))) (h0 : J [] W) :
    CallsIn F n Tryz.prog 85 #[.func (.yield l) #[] #[], .pointer (some ⟨Bs, 0, none⟩)] W fun e W' => (∃ v, e = .returned v) ∧
      ((∃ ys, ys = bk its 0 its.length ∧ J ys W') ∨ (∃ pre, True ∧ Jx pre W')) := by
  refine callsIn_of_wp Tryz.func85 rfl h8 ?_ hro
  simp only [Tryz.ntmps85, List.size_toArray, List.length_cons, List.length_nil, Nat.reduceAdd, Nat.reduceSub, Array.replicate_succ, Array.replicate_zero, List.push_toArray, List.append_toArray, List.nil_append, List.cons_append]
  have cB : W.cell? ⟨Bs, 0, none⟩ = some (.slice (some ⟨b, 0, none⟩) its.length its.length) := by simp [World.cell?, hBs]
  gi_wp2
  gi_loopw [3] (fun i wr => ∃ q k : Nat, q + k = its.length ∧ i = .int .i64 ((q : Int) - 1) ∧ J (bk its q k) wr ∧ KB b Bs W wr)
    (fun i _ => (intOf i + 1).toNat)
  case atStart => exact ⟨its.length, 0, by omega, rfl, h0, rfl, rfl⟩
  case round =>
    obtain ⟨q, k, hqk, rfl, hJs, hK⟩ := hrel
    have hBs' := hK.2.trans hBs
    have hb' := hK.1.trans hb
    have cB' : wr.cell? ⟨Bs, 0, none⟩ = some (.slice (some ⟨b, 0, none⟩) its.length its.length) := by simp [World.cell?, hBs']
    cases q with
    | zero =>
      obtain rfl : k = its.length := by omega
      gi_wp2
      go_end0
      exact ⟨⟨_, rfl⟩, .inl ⟨_, rfl, hJs⟩⟩
    | succ p =>
      rw [show ((p + 1 : Nat) : Int) - 1 = (p : Int) by omega]
      have hp : p < its.length := by omega
      obtain ⟨x, hx⟩ : ∃ x, its[p]? = some x := ⟨its[p], List.getElem?_eq_getElem hp⟩
      obtain ⟨e0, e1⟩ := flatI_get its p x hx
      have c0 : wr.cell? ⟨b, p * 2, none⟩ = some (.int .i64 x.m) := by simp [World.cell?, hb', e0]
      have c1 : wr.cell? ⟨b, p * 2 + 1, none⟩ = some (.func x.fn x.first x.cap) := by simp [World.cell?, hb', e1]
      obtain ⟨fn, tmps, assign, body, hy, hR⟩ := hY _ (p, x) wr hJs (by rw [bk_length its k (p + 1) hqk]; omega)
      dsimp only [IV.val] at hy
      have hsnoc : bk its p (k + 1) = bk its (p + 1) k ++ [(p, x)] := by rw [bk, hx]
      gi_wp2
      refine hR.mono ?_
      rintro e W3 (⟨rfl, hJ3, hk3⟩ | ⟨rfl, hJx3⟩)
      · gi_wp2
        go_roundw
        case rel => exact ⟨p, k + 1, by omega, by simp, by rw [hsnoc]; exact hJ3, hK.trans hk3⟩
        case measure => simp [intOf]
      · gi_wp2
        refine bodyPost_ret (results_none rfl _ _ _) rfl ?_
        exact ⟨⟨_, rfl⟩, .inr ⟨_, trivial, hJx3⟩⟩
theorem back_stops (F : Fence) (n : Nat) (h8 : F.fn 85) (hro : F.round = none) (hn : 1 ≤ n) (Bs b : Nat) (its : List IV) (hlen : its.length ≤ 1000) (w : World) (hBs : w.heap[Bs]? = some (.cells #[.slice (some ⟨b, 0, none⟩) its.length its.length] 79 (0, 0))) (hb : w.heap[b]? = some (.cells (flatI its).toArray 92 (0, 0))) :
    SeqStopsK F n Tryz.prog 85 #[.pointer (some ⟨Bs, 0, none⟩)] (fun x : Nat × IV => #[Value.int .i64 (x.1 : Int), x.2.val]) (KB b Bs) (fun ys => ys = bk its 0 its.length) (fun _ => True) its.length w := fun l J Jx W hW _ _ hY h0 =>
  back1_in F n h8 hro hn l Bs b its hlen J Jx hY W ((hW.block _ (lt_of_block hBs)).trans hBs) ((hW.block _ (lt_of_block hb)).trans hb) h0
end Go.Proofs.YticfcjmlphhpgabGreatDoor
