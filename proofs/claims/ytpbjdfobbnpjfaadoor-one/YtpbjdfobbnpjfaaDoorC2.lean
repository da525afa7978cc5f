/-
  WALKS of the reader, 2: Cut.
-/
import Derived.Test.YtpbjdfobbnpjfaaDoorC1
namespace Go.Proofs.YtpbjdfobbnpjfaaDoor
open Go.RowKit

theorem BytesAt.take {w : World} {g o : Nat} {l : Bs} (h : BytesAt w g o l) (n : Nat) : BytesAt w g o (l.take n) := fun i hi => by
  rw [List.length_take] at hi
  rw [List.getElem_take]; exact h i (by omega)
theorem BytesAt.drop {w : World} {g o : Nat} {l : Bs} (h : BytesAt w g o l) (n : Nat) : BytesAt w g (o + n) (l.drop n) := fun i hi => by
  rw [List.length_drop] at hi
  rw [List.getElem_drop, Nat.add_assoc]; exact h (n + i) (by omega)
theorem BytesAt.nil (w : World) (g o : Nat) : BytesAt w g o [] := fun i hi => by simp at hi
theorem BytesAt.drewN {w : World} {g o : Nat} {l : Bs} (h : BytesAt w g o l) (n : Nat) : BytesAt (w.drewN n) g o l := fun i hi => by
  have := h i hi
  rwa [show (w.drewN n).cell? ⟨g, o + i, none⟩ = w.cell? ⟨g, o + i, none⟩ by simp]
theorem BytesAt.setCell {w : World} {g o : Nat} {l : Bs} (h : BytesAt w g o l) (a : Addr) (v : Value) (ha : a.block ≠ g) : BytesAt (w.setCell a v) g o l := fun i hi => by
  rw [World.cell?_setCell_other _ _ _ _ (fun e => ha (by rw [e]))]; exact h i hi
theorem conv_bytes (W : World) (g o n cap : Nat) (s : Bs) (hn : n = s.length) (h : BytesAt W g o s) : (convert 40 9 (.slice (some ⟨g, o, none⟩) n cap)).run Tryd.prog W = .ok (.string ⟨s.toArray⟩) W := by
  subst hn
  refine run_convert_bytes_back (P := Tryd.prog) _ 40 9 5 ⟨g, o, none⟩ cap s Tryd.underlying40 Tryd.underlying5 Tryd.underlying9 (fun j hj => ?_)
  have ha : (⟨g, o, none⟩ : Addr).add j = ⟨g, o + j, none⟩ := by unfold Addr.add; split <;> simp_all
  rw [ha]; exact h j hj
theorem padLen_8 (n : Nat) : padLen (8 + n) = padLen n := by unfold padLen; omega

def cutRes : Ct → Value
  | .wait => .tuple #[.string ⟨#[]⟩, .int .i64 2]
  | .bad e => .tuple #[.string ⟨#[]⟩, .int .i64 e]
  | .ok s _ _ => .tuple #[.string ⟨s.toArray⟩, .int .i64 0]

set_option maxRecDepth 20000 in
set_option maxHeartbeats 1000000 in
theorem Cut_any (w : World) (R g o cap most : Nat) (l : Bs) (pos : Nat) (c0 : w.cell? ⟨R, 0, none⟩ = some (.slice (some ⟨g, o, none⟩) l.length cap)) (c1 : w.cell? ⟨R, 1, none⟩ = some (.int .i64 pos))
    (f0 : w.frozen? ⟨R, 0, none⟩ = false) (f1 : w.frozen? ⟨R, 1, none⟩ = false) (h : BytesAt w g o l) (hcap : l.length ≤ cap) (hl : l.length ≤ 1000000000) (hp : pos ≤ 1000000000) (hm : most ≤ 100) (hgR : R ≠ g) :
    Calls Tryd.prog 48 #[.pointer (some ⟨R, 0, none⟩), .int .i64 most] w fun e w' => e = .returned (cutRes (cutF l most)) ∧
      ∃ q, match cutF l most with
        | .ok _ rest n => ∃ o' cap', w' = ((w.drewN q).setCell ⟨R, 0, none⟩ (.slice (some ⟨g, o', none⟩) rest.length cap')).setCell ⟨R, 1, none⟩ (.int .i64 ((pos + n : Nat) : Int)) ∧ BytesAt w g o' rest ∧ rest.length ≤ cap'
        | _ => w' = w.drewN q := by
  obtain ⟨C, hC⟩ : ∃ C, cutF l most = C := ⟨_, rfl⟩
  rw [hC]
  unfold cutF at hC
  have H := hide h
  have h8l : (l.take 8).length = min 8 l.length := List.length_take
  clear h
  by_cases h8 : l.length < 8
  · rw [if_pos h8] at hC
    subst hC
    clear h8l
    have h8z : (l.length : Int) < 8 := by omega
    go_enter Tryd.func48, Tryd.ntmps48
    go_wp2
    go_ret2
    exact ⟨rfl, 0, rfl⟩
  · rw [if_neg h8] at hC
    have h8z : ¬ (l.length : Int) < 8 := by omega
    have h8c : 8 ≤ cap := by omega
    have cN := hide (number_any w g o (l.take 8) (H.out.take 8) (by omega))
    have hnl := num8_lt (l.take 8)
    rw [show (l.take 8).length = 8 by omega] at hnl
    generalize num8 (l.take 8) = N at cN hC hnl
    clear h8l
    have hnl' : N < 18446744073709551616 := hnl
    clear hnl
    by_cases hmN : most < N
    · rw [if_pos hmN] at hC
      subst hC
      have hz : (most : Int) < N := by omega
      go_enter Tryd.func48, Tryd.ntmps48
      go_wp2_with fail
      refine cN.out.mono ?_
      rintro e w1 ⟨rfl, rfl⟩
      clear cN
      go_wp2
      go_ret2
      exact ⟨rfl, 0, rfl⟩
    · rw [if_neg hmN] at hC
      have hz : ¬ (most : Int) < N := by omega
      have hwr : IntKind.i64.wrap (N : Int) = N := by rw [IntKind.wrap_i64]; omega
      have cF := hide (filling_any (8 + N) w (by omega))
      rw [padLen_8] at cF
      have hpl : padLen N < 8 := by unfold padLen; omega
      by_cases hW : l.length < wholeOf N
      · rw [if_pos hW] at hC
        subst hC
        unfold wholeOf at hW
        generalize padLen N = P at cF hpl hW
        have hWz : (l.length : Int) < 8 + N + P := by omega
        go_enter Tryd.func48, Tryd.ntmps48
        go_wp2_with fail
        refine cN.out.mono ?_
        rintro e w1 ⟨rfl, rfl⟩
        clear cN
        go_wp2_with fail
        refine cF.out.mono ?_
        rintro e w2 ⟨rfl, rfl⟩
        clear cF
        go_wp2
        go_ret2
        exact ⟨rfl, 0, rfl⟩
      · rw [if_neg hW] at hC
        unfold wholeOf at hW hC
        generalize hP : padLen N = P at cF hpl hW hC
        have hWz : ¬ (l.length : Int) < 8 + N + P := by omega
        have HC := hide hC
        clear hC
        have hNl : ((l.drop 8).take N).length = N := by rw [List.length_take, List.length_drop]; omega
        have hRl : (l.drop (8 + N + P)).length = l.length - (8 + N + P) := List.length_drop
        have hZl : ((l.take (8 + N + P)).drop (8 + N)).length = P := by rw [List.length_drop, List.length_take]; omega
        by_cases hall : ((l.take (8 + N + P)).drop (8 + N)).all (· == 0) = true
        · have hC := HC.out
          rw [if_pos hall] at hC
          subst hC
          clear HC
          have HCast := hide (show ((pos + (8 + N + P) : Nat) : Int) = (pos : Int) + (8 + N + P) by omega)
          by_cases hP0 : P = 0
          · subst hP0
            simp only [Nat.add_zero, Int.natCast_zero, Int.add_zero] at *
            by_cases hN0 : N = 0
            · subst hN0
              have hconv : ∀ q X Y o2, (convert 40 9 (.slice (some ⟨g, o2, none⟩) 0 0)).run Tryd.prog (((w.drewN q).setCell ⟨R, 0, none⟩ X).setCell ⟨R, 1, none⟩ Y) = .ok (.string ⟨#[]⟩) (((w.drewN q).setCell ⟨R, 0, none⟩ X).setCell ⟨R, 1, none⟩ Y) := fun q X Y o2 => conv_bytes _ g o2 0 0 [] rfl (BytesAt.nil _ _ _)
              have hs0 : (l.drop 8).take 0 = [] := rfl
              rw [hs0]
              simp only [Nat.add_zero, Int.natCast_zero, Int.add_zero] at *
              have cZ := hide (fun q o2 => allZero_any (w.drewN q) g o2 0 [] (BytesAt.nil _ _ _) (by simp))
              clear hNl hall hZl
              by_cases hcw : cap = 8
              · subst hcw
                go_enter Tryd.func48, Tryd.ntmps48
                go_wp2_with fail
                refine cN.out.mono ?_
                rintro e w1 ⟨rfl, rfl⟩
                clear cN
                go_wp2_with fail
                refine cF.out.mono ?_
                rintro e w2 ⟨rfl, rfl⟩
                clear cF
                go_wp2
                go_quiet (fail)
                go_wp2_with fail
                refine (cZ.out nq _).mono ?_
                rintro e w3 ⟨rfl, rfl⟩
                clear cZ
                go_wp2
                go_ret2
                refine ⟨rfl, nq, o, 0, (by rw [hRl, HCast.out, show l.length - 8 = 0 by omega]), (by rw [List.drop_eq_nil_of_le (by omega)]; exact BytesAt.nil _ _ _), by omega⟩
              · skip
                go_enter Tryd.func48, Tryd.ntmps48
                go_wp2_with fail
                refine cN.out.mono ?_
                rintro e w1 ⟨rfl, rfl⟩
                clear cN
                go_wp2_with fail
                refine cF.out.mono ?_
                rintro e w2 ⟨rfl, rfl⟩
                clear cF
                go_wp2
                go_quiet (fail)
                go_wp2_with fail
                refine (cZ.out nq _).mono ?_
                rintro e w3 ⟨rfl, rfl⟩
                clear cZ
                go_wp2
                go_ret2
                refine ⟨rfl, nq, _, _, (by rw [hRl, HCast.out]), H.out.drop _, by omega⟩
            · have hconv : ∀ q X Y, (convert 40 9 (.slice (some ⟨g, o + 8, none⟩) N N)).run Tryd.prog (((w.drewN q).setCell ⟨R, 0, none⟩ X).setCell ⟨R, 1, none⟩ Y) = .ok (.string ⟨((l.drop 8).take N).toArray⟩) (((w.drewN q).setCell ⟨R, 0, none⟩ X).setCell ⟨R, 1, none⟩ Y) := fun q X Y => conv_bytes _ g (o + 8) N N _ hNl.symm (((((H.out.drewN q).drop 8).take N).setCell _ _ hgR).setCell _ _ hgR)
              generalize (l.drop 8).take N = sN at hconv
              have hsub : 8 + N - 8 = N := by omega
              have cZ := hide (fun q o2 => allZero_any (w.drewN q) g o2 0 [] (BytesAt.nil _ _ _) (by simp))
              clear hNl hall hZl
              by_cases hcw : cap = 8 + N
              · subst hcw
                go_enter Tryd.func48, Tryd.ntmps48
                go_wp2_with fail
                refine cN.out.mono ?_
                rintro e w1 ⟨rfl, rfl⟩
                clear cN
                go_wp2_with fail
                refine cF.out.mono ?_
                rintro e w2 ⟨rfl, rfl⟩
                clear cF
                go_wp2
                go_quiet (fail)
                go_wp2_with fail
                refine (cZ.out nq _).mono ?_
                rintro e w3 ⟨rfl, rfl⟩
                clear cZ
                go_wp2
                go_ret2
                refine ⟨rfl, nq, o, 0, (by rw [hRl, HCast.out, show l.length - (8 + N) = 0 by omega]), (by rw [List.drop_eq_nil_of_le (by omega)]; exact BytesAt.nil _ _ _), by omega⟩
              · skip
                go_enter Tryd.func48, Tryd.ntmps48
                go_wp2_with fail
                refine cN.out.mono ?_
                rintro e w1 ⟨rfl, rfl⟩
                clear cN
                go_wp2_with fail
                refine cF.out.mono ?_
                rintro e w2 ⟨rfl, rfl⟩
                clear cF
                go_wp2
                go_quiet (fail)
                go_wp2_with fail
                refine (cZ.out nq _).mono ?_
                rintro e w3 ⟨rfl, rfl⟩
                clear cZ
                go_wp2
                go_ret2
                refine ⟨rfl, nq, _, _, (by rw [hRl, HCast.out]), H.out.drop _, by omega⟩
          · have hN0 : ¬ N = 0 := fun e => hP0 (by rw [← hP, e]; rfl)
            by_cases hcw : cap = 8 + N + P
            · subst hcw
              have cZ := hide (fun q => allZero_any (w.drewN q) g (o + (8 + N)) P ((l.take (8 + N + P)).drop (8 + N)) (((H.out.drewN q).take _).drop _) (by omega))
              rw [hZl, hall] at cZ
              have hconv : ∀ q X Y, (convert 40 9 (.slice (some ⟨g, o + 8, none⟩) N N)).run Tryd.prog (((w.drewN q).setCell ⟨R, 0, none⟩ X).setCell ⟨R, 1, none⟩ Y) = .ok (.string ⟨((l.drop 8).take N).toArray⟩) (((w.drewN q).setCell ⟨R, 0, none⟩ X).setCell ⟨R, 1, none⟩ Y) := fun q X Y => conv_bytes _ g (o + 8) N N _ hNl.symm (((((H.out.drewN q).drop 8).take N).setCell _ _ hgR).setCell _ _ hgR)
              generalize (l.drop 8).take N = sN at hconv
              have hsub : 8 + N - 8 = N := by omega
              clear hNl hall
              go_enter Tryd.func48, Tryd.ntmps48
              go_wp2_with fail
              refine cN.out.mono ?_
              rintro e w1 ⟨rfl, rfl⟩
              clear cN
              go_wp2_with fail
              refine cF.out.mono ?_
              rintro e w2 ⟨rfl, rfl⟩
              clear cF
              go_wp2
              go_quiet (fail)
              go_wp2_with fail
              refine (cZ.out nq ).mono ?_
              rintro e w3 ⟨rfl, rfl⟩
              clear cZ
              go_wp2
              go_ret2
              refine ⟨rfl, nq, o, 0, (by rw [hRl, HCast.out, show l.length - (8 + N + P) = 0 by omega]), (by rw [List.drop_eq_nil_of_le (by omega)]; exact BytesAt.nil _ _ _), by omega⟩
            · skip
              have cZ := hide (fun q => allZero_any (w.drewN q) g (o + (8 + N)) P ((l.take (8 + N + P)).drop (8 + N)) (((H.out.drewN q).take _).drop _) (by omega))
              rw [hZl, hall] at cZ
              have hconv : ∀ q X Y, (convert 40 9 (.slice (some ⟨g, o + 8, none⟩) N N)).run Tryd.prog (((w.drewN q).setCell ⟨R, 0, none⟩ X).setCell ⟨R, 1, none⟩ Y) = .ok (.string ⟨((l.drop 8).take N).toArray⟩) (((w.drewN q).setCell ⟨R, 0, none⟩ X).setCell ⟨R, 1, none⟩ Y) := fun q X Y => conv_bytes _ g (o + 8) N N _ hNl.symm (((((H.out.drewN q).drop 8).take N).setCell _ _ hgR).setCell _ _ hgR)
              generalize (l.drop 8).take N = sN at hconv
              have hsub : 8 + N - 8 = N := by omega
              clear hNl hall
              go_enter Tryd.func48, Tryd.ntmps48
              go_wp2_with fail
              refine cN.out.mono ?_
              rintro e w1 ⟨rfl, rfl⟩
              clear cN
              go_wp2_with fail
              refine cF.out.mono ?_
              rintro e w2 ⟨rfl, rfl⟩
              clear cF
              go_wp2
              go_quiet (fail)
              go_wp2_with fail
              refine (cZ.out nq ).mono ?_
              rintro e w3 ⟨rfl, rfl⟩
              clear cZ
              go_wp2
              go_ret2
              refine ⟨rfl, nq, _, _, (by rw [hRl, HCast.out]), H.out.drop _, by omega⟩
        · have hC := HC.out
          rw [if_neg hall] at hC
          subst hC
          clear HC
          have hallf : ((l.take (8 + N + P)).drop (8 + N)).all (· == 0) = false := by simpa using hall
          have hP0 : ¬ P = 0 := fun e => by
            rw [List.eq_nil_of_length_eq_zero (hZl.trans e)] at hallf
            simp at hallf
          have hN0 : ¬ N = 0 := fun e => hP0 (by rw [← hP, e]; rfl)
          have cZ := hide (fun q => allZero_any (w.drewN q) g (o + (8 + N)) P ((l.take (8 + N + P)).drop (8 + N)) (((H.out.drewN q).take _).drop _) (by omega))
          rw [hZl, hallf] at cZ
          clear hallf hall hNl
          go_enter Tryd.func48, Tryd.ntmps48
          go_wp2_with fail
          refine cN.out.mono ?_
          rintro e w1 ⟨rfl, rfl⟩
          clear cN
          go_wp2_with fail
          refine cF.out.mono ?_
          rintro e w2 ⟨rfl, rfl⟩
          clear cF
          go_wp2
          go_quiet (fail)
          go_wp2_with fail
          refine (cZ.out nq).mono ?_
          rintro e w3 ⟨rfl, rfl⟩
          clear cZ
          go_wp2
          go_ret2
          exact ⟨rfl, nq, rfl⟩
end Go.Proofs.YtpbjdfobbnpjfaaDoor
