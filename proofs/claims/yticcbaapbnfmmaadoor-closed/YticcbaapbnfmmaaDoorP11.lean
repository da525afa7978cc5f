import Derived.Test.YticcbaapbnfmmaaDoorP10
namespace Go.Proofs.YticcbaapbnfmmaaDoor
open Go.RowKit
theorem Same_more {n N : Nat} {f g : Nat → Nat} (h : HP.Same n f g) (hn : n ≤ N) (he : ∀ k, n ≤ k → g k = f k) : HP.Same N f g := by
  refine ⟨fun i hi => ?_, fun i hi => ?_, fun H i k hi hk e => ?_⟩
  · by_cases hin : i < n
    · obtain ⟨k, hk, e⟩ := h.ab i hin; exact ⟨k, by omega, e⟩
    · exact ⟨i, hi, (he i (by omega)).symm⟩
  · by_cases hin : i < n
    · obtain ⟨k, hk, e⟩ := h.ba i hin; exact ⟨k, by omega, e⟩
    · exact ⟨i, hi, he i (by omega)⟩
  · have inj := h.inj (fun i k hi hk e => H i k (by omega) (by omega) e)
    by_cases h1 : i < n
    · by_cases h2 : k < n
      · exact inj i k h1 h2 e
      · obtain ⟨m, hm, em⟩ := h.ab i h1
        rw [he k (by omega)] at e
        have := H m k (by omega) hk (em.trans e)
        omega
    · by_cases h2 : k < n
      · obtain ⟨m, hm, em⟩ := h.ab k h2
        rw [he i (by omega)] at e
        have := H m i (by omega) hi (em.trans e.symm)
        omega
      · rw [he i (by omega), he k (by omega)] at e
        exact H i k hi hk e
theorem KeyAt.more {w w' : World} {key : Nat → ByteArray} {f g : Nat → Nat} {n N B q : Nat} (h : KeyAt w key f N) (hQ : QAt w B q f N) (hs : HP.Same n f g) (hn : n ≤ N) (he : ∀ k, n ≤ k → g k = f k) (hk : HK B q w w') : KeyAt w' key g N := h.hk hQ (Same_more hs hn he) hk
set_option maxRecDepth 20000 in
set_option maxHeartbeats 8000000 in
theorem down_any (B q n N i0 : Nat) (f : Nat → Nat) (key : Nat → ByteArray) (w : World) (h : QAt w B q f N) (hN : N ≤ 1000) (hnN : n ≤ N) (hi0 : i0 ≤ n) (hK : KeyAt w key f N) (hU : HP.DownI (ltK key) f n i0) (hO : HP.Or (ltK key)) :
    Calls Tryd.prog 36 #[.iface 62 (.pointer (some ⟨q, 0, none⟩)), .int .i64 i0, .int .i64 n] w fun e w' => (∃ bb, e = .returned (.bool bb)) ∧ ∃ g, QAt w' B q g N ∧ HP.IsHeap (ltK key) g n ∧ HP.Same n f g ∧ (∀ k, n ≤ k → g k = f k) ∧ HK B q w w' := by
  have HH := hide h
  have HKK := hide hK
  have HO := hide hO
  have HU := hide hU
  clear h hK hO hU
  have nl := nil_Less ⟨q, 0, none⟩
  have ns := nil_Swap ⟨q, 0, none⟩
  go_enter Tryd.func36, Tryd.ntmps36
  go_wp2
  go_loopw [7, 8, 9, 10] (fun iv _ _ _ w1 => ∃ (i : Nat) (g : Nat → Nat), iv = .int .i64 i ∧ i ≤ n ∧ Hid (QAt w1 B q g N) ∧ Hid (HP.DownI (ltK key) g n i) ∧ Hid (HP.Same n f g) ∧ Hid (∀ k, n ≤ k → g k = f k) ∧ Hid (HK B q w w1)) (fun iv _ _ _ _ => n - (intOf iv).toNat)
  case atStart => exact ⟨i0, f, rfl, hi0, HH, HU, hide (HP.Same.refl _ _), hide (fun _ _ => rfl), hide (HK.refl _ _ _)⟩
  case round =>
    obtain ⟨i, g, rfl, hi, HQ1, HU1, HS1, HE1, HK1⟩ := hrel
    by_cases h1 : n ≤ 2 * i + 1
    · have h1z : (n : Int) ≤ 2 * (i : Int) + 1 := by omega
      have hdone := hide (HU1.out.done h1)
      go_wp2
      go_ret
      exact ⟨⟨_, rfl⟩, g, HQ1.out, hdone.out, HS1.out, HE1.out, HK1.out⟩
    · have h1z : ¬ (n : Int) ≤ 2 * (i : Int) + 1 := by omega
      have h2z : ¬ (2 * (i : Int) + 1 < 0) := by omega
      by_cases h2 : 2 * i + 2 < n
      · have h3z : (2 * (i : Int) + 1 + 1 < n) := by omega
        obtain ⟨a, c, hq, ho⟩ := HQ1.out.at_
        have ml := meth_Less hq
        have hA : 2 * i + 1 + 1 < N := by omega
        have hB : 2 * i + 1 < N := by omega
        have cL := hide (qLess_Q hq ho HQ1.out.le (HKK.out.more HH.out HS1.out hnN HE1.out HK1.out) hA hB)
        have eA : ((2 * i + 1 + 1 : Nat) : Int) = 2 * (i : Int) + 1 + 1 := by omega
        have eB : ((2 * i + 1 : Nat) : Int) = 2 * (i : Int) + 1 := by omega
        rw [eA, eB] at cL
        clear ho eA eB hA hB
        cases hl0 : ltK key (g (2 * i + 1 + 1)) (g (2 * i + 1)) with
        | true =>
          rw [hl0] at cL
          go_wp2_with fail
          refine cL.out.mono ?_
          rintro e w1 ⟨rfl, hQ1, hK1⟩
          have HQ1' := hide hQ1
          have HK1' := hide (HK1.out.trans hK1)
          clear hQ1 hK1 cL ml hq
          obtain ⟨j, hjE, hj0, hjn, hpj, hjl⟩ : ∃ j : Nat, (j : Int) = 2 * (i : Int) + 1 + 1 ∧ 0 < j ∧ j < n ∧ HP.par j = i ∧ ∀ x, 0 < x → x < n → HP.par x = i → ltK key (g x) (g j) = false := ⟨2 * i + 2, by omega, by omega, by omega, by unfold HP.par; omega, HP.least HO.out _ (.inr ⟨rfl, hl0⟩)⟩
          have hjN : j < N := by omega
          have hiN : i < N := by omega
          obtain ⟨a2, c2, hq2, ho2⟩ := HQ1'.out.at_
          have ml2 := meth_Less hq2
          have cL2 := hide (qLess_Q hq2 ho2 HQ1'.out.le (HKK.out.more HH.out HS1.out hnN HE1.out HK1'.out) hjN hiN)
          rw [hjE] at cL2
          have hstop := hide (HU1.out.stop HO.out hjl)
          have hstep := hide (HU1.out.step HO.out hj0 hjn hpj hjl)
          have hij : i < j := by rw [← hpj]; exact HP.par_lt hj0
          clear ho2 hjl
          cases hl : ltK key (g j) (g i) with
          | false =>
            rw [hl] at cL2
            go_wp2_with fail
            refine cL2.out.mono ?_
            rintro e w2 ⟨rfl, hQ2, hK2⟩
            have HQ2 := hide hQ2
            have HK2 := hide (HK1'.out.trans hK2)
            clear hQ2 hK2 cL2 ml2
            go_wp2
            go_ret
            exact ⟨⟨_, rfl⟩, g, HQ2.out, hstop.out hl, HS1.out, HE1.out, HK2.out⟩
          | true =>
            rw [hl] at cL2
            go_wp2_with fail
            refine cL2.out.mono ?_
            rintro e w2 ⟨rfl, hQ2, hK2⟩
            obtain ⟨a3, c3, hq3, ho3⟩ := hQ2.at_
            have ms := meth_Swap hq3
            have cS := hide (qSwap_Q hq3 ho3 hQ2.le hiN hjN)
            rw [hjE] at cS
            have HK2 := hide (HK1'.out.trans hK2)
            clear hQ2 hK2 cL2 ml2 ho3
            go_wp2_with fail
            refine cS.out.mono ?_
            rintro e w3 ⟨rfl, hQ3, hK3⟩
            have HQ3 := hide hQ3
            have HK3 := hide (HK2.out.trans hK3)
            have HS3 := hide (HS1.out.trans (HP.Same.swp n g (show i < n by omega) hjn))
            have HE3 : Hid (∀ k, n ≤ k → HP.swp g i j k = f k) := hide fun k hk => by rw [HP.swp_o g (by omega) (by omega)]; exact HE1.out k hk
            have HU3 := hide (hstep.out hl)
            clear hQ3 hK3 cS ms hq3
            go_wp2
            go_roundw
            case rel => exact ⟨j, _, by rw [hjE], by omega, HQ3, HU3, HS3, HE3, HK3⟩
            case measure =>
              simp only [intOf]
              have hcast : (2 * (i : Int) + 1).toNat = 2 * i + 1 := by omega
              have hcast2 : (2 * (i : Int) + 1 + 1).toNat = 2 * i + 2 := by omega
              simp
              omega
        | false =>
          rw [hl0] at cL
          go_wp2_with fail
          refine cL.out.mono ?_
          rintro e w1 ⟨rfl, hQ1, hK1⟩
          have HQ1' := hide hQ1
          have HK1' := hide (HK1.out.trans hK1)
          clear hQ1 hK1 cL ml hq
          obtain ⟨j, hjE, hj0, hjn, hpj, hjl⟩ : ∃ j : Nat, (j : Int) = 2 * (i : Int) + 1 ∧ 0 < j ∧ j < n ∧ HP.par j = i ∧ ∀ x, 0 < x → x < n → HP.par x = i → ltK key (g x) (g j) = false := ⟨2 * i + 1, by omega, by omega, by omega, by unfold HP.par; omega, HP.least HO.out _ (.inl ⟨rfl, fun _ => hl0⟩)⟩
          have hjN : j < N := by omega
          have hiN : i < N := by omega
          obtain ⟨a2, c2, hq2, ho2⟩ := HQ1'.out.at_
          have ml2 := meth_Less hq2
          have cL2 := hide (qLess_Q hq2 ho2 HQ1'.out.le (HKK.out.more HH.out HS1.out hnN HE1.out HK1'.out) hjN hiN)
          rw [hjE] at cL2
          have hstop := hide (HU1.out.stop HO.out hjl)
          have hstep := hide (HU1.out.step HO.out hj0 hjn hpj hjl)
          have hij : i < j := by rw [← hpj]; exact HP.par_lt hj0
          clear ho2 hjl
          cases hl : ltK key (g j) (g i) with
          | false =>
            rw [hl] at cL2
            go_wp2_with fail
            refine cL2.out.mono ?_
            rintro e w2 ⟨rfl, hQ2, hK2⟩
            have HQ2 := hide hQ2
            have HK2 := hide (HK1'.out.trans hK2)
            clear hQ2 hK2 cL2 ml2
            go_wp2
            go_ret
            exact ⟨⟨_, rfl⟩, g, HQ2.out, hstop.out hl, HS1.out, HE1.out, HK2.out⟩
          | true =>
            rw [hl] at cL2
            go_wp2_with fail
            refine cL2.out.mono ?_
            rintro e w2 ⟨rfl, hQ2, hK2⟩
            obtain ⟨a3, c3, hq3, ho3⟩ := hQ2.at_
            have ms := meth_Swap hq3
            have cS := hide (qSwap_Q hq3 ho3 hQ2.le hiN hjN)
            rw [hjE] at cS
            have HK2 := hide (HK1'.out.trans hK2)
            clear hQ2 hK2 cL2 ml2 ho3
            go_wp2_with fail
            refine cS.out.mono ?_
            rintro e w3 ⟨rfl, hQ3, hK3⟩
            have HQ3 := hide hQ3
            have HK3 := hide (HK2.out.trans hK3)
            have HS3 := hide (HS1.out.trans (HP.Same.swp n g (show i < n by omega) hjn))
            have HE3 : Hid (∀ k, n ≤ k → HP.swp g i j k = f k) := hide fun k hk => by rw [HP.swp_o g (by omega) (by omega)]; exact HE1.out k hk
            have HU3 := hide (hstep.out hl)
            clear hQ3 hK3 cS ms hq3
            go_wp2
            go_roundw
            case rel => exact ⟨j, _, by rw [hjE], by omega, HQ3, HU3, HS3, HE3, HK3⟩
            case measure =>
              simp only [intOf]
              have hcast : (2 * (i : Int) + 1).toNat = 2 * i + 1 := by omega
              have hcast2 : (2 * (i : Int) + 1 + 1).toNat = 2 * i + 2 := by omega
              simp
              omega
      · have h3z : ¬ (2 * (i : Int) + 1 + 1 < n) := by omega
        obtain ⟨j, hjE, hj0, hjn, hpj, hjl⟩ : ∃ j : Nat, (j : Int) = 2 * (i : Int) + 1 ∧ 0 < j ∧ j < n ∧ HP.par j = i ∧ ∀ x, 0 < x → x < n → HP.par x = i → ltK key (g x) (g j) = false := ⟨2 * i + 1, by omega, by omega, by omega, by unfold HP.par; omega, HP.least HO.out _ (.inl ⟨rfl, fun hh => absurd hh h2⟩)⟩
        have hjN : j < N := by omega
        have hiN : i < N := by omega
        obtain ⟨a2, c2, hq2, ho2⟩ := HQ1.out.at_
        have ml2 := meth_Less hq2
        have cL2 := hide (qLess_Q hq2 ho2 HQ1.out.le (HKK.out.more HH.out HS1.out hnN HE1.out HK1.out) hjN hiN)
        rw [hjE] at cL2
        have hstop := hide (HU1.out.stop HO.out hjl)
        have hstep := hide (HU1.out.step HO.out hj0 hjn hpj hjl)
        have hij : i < j := by rw [← hpj]; exact HP.par_lt hj0
        clear ho2 hjl
        cases hl : ltK key (g j) (g i) with
        | false =>
          rw [hl] at cL2
          go_wp2_with fail
          refine cL2.out.mono ?_
          rintro e w2 ⟨rfl, hQ2, hK2⟩
          have HQ2 := hide hQ2
          have HK2 := hide (HK1.out.trans hK2)
          clear hQ2 hK2 cL2 ml2
          go_wp2
          go_ret
          exact ⟨⟨_, rfl⟩, g, HQ2.out, hstop.out hl, HS1.out, HE1.out, HK2.out⟩
        | true =>
          rw [hl] at cL2
          go_wp2_with fail
          refine cL2.out.mono ?_
          rintro e w2 ⟨rfl, hQ2, hK2⟩
          obtain ⟨a3, c3, hq3, ho3⟩ := hQ2.at_
          have ms := meth_Swap hq3
          have cS := hide (qSwap_Q hq3 ho3 hQ2.le hiN hjN)
          rw [hjE] at cS
          have HK2 := hide (HK1.out.trans hK2)
          clear hQ2 hK2 cL2 ml2 ho3
          go_wp2_with fail
          refine cS.out.mono ?_
          rintro e w3 ⟨rfl, hQ3, hK3⟩
          have HQ3 := hide hQ3
          have HK3 := hide (HK2.out.trans hK3)
          have HS3 := hide (HS1.out.trans (HP.Same.swp n g (show i < n by omega) hjn))
          have HE3 : Hid (∀ k, n ≤ k → HP.swp g i j k = f k) := hide fun k hk => by rw [HP.swp_o g (by omega) (by omega)]; exact HE1.out k hk
          have HU3 := hide (hstep.out hl)
          clear hQ3 hK3 cS ms hq3
          go_wp2
          go_roundw
          case rel => exact ⟨j, _, by rw [hjE], by omega, HQ3, HU3, HS3, HE3, HK3⟩
          case measure =>
            simp only [intOf]
            have hcast : (2 * (i : Int) + 1).toNat = 2 * i + 1 := by omega
            have hcast2 : (2 * (i : Int) + 1 + 1).toNat = 2 * i + 2 := by omega
            simp
            omega
end Go.Proofs.YticcbaapbnfmmaaDoor
namespace Go.Proofs.YticcbaapbnfmmaaDoor
open Go.RowKit
set_option maxRecDepth 20000 in
set_option maxHeartbeats 4000000 in
theorem heapPop_any (B q n : Nat) (f : Nat → Nat) (key : Nat → ByteArray) (w : World) (h : QAt w B q f (n + 1)) (hn : n < 1000) (hK : KeyAt w key f (n + 1)) (hH : HP.IsHeap (ltK key) f (n + 1)) (hO : HP.Or (ltK key)) :
    Calls Tryd.prog 28 #[.iface 62 (.pointer (some ⟨q, 0, none⟩))] w fun e w' => ∃ g, e = .returned (.iface 65 (.pointer (some ⟨g n, 0, none⟩))) ∧ QAt w' B q g n ∧ HP.IsHeap (ltK key) g n ∧ g n = f 0 ∧ HP.Same (n + 1) f g ∧ HK B q w w' := by
  obtain ⟨a, c, hq, ho⟩ := h.at_
  have hle := h.le
  have cL := hide (qLen_any a (n + 1) c w)
  have ml := meth_Len hq
  have ms := meth_Swap hq
  have cS := hide (qSwap_Q hq ho hle (show 0 < n + 1 by omega) (show n < n + 1 by omega))
  have cD : Hid (∀ w1, QAt w1 B q (HP.swp f 0 n) (n + 1) → HK B q w w1 → Calls Tryd.prog 36 #[.iface 62 (.pointer (some ⟨q, 0, none⟩)), .int .i64 ((0 : Nat) : Int), .int .i64 n] w1 fun e w' => (∃ bb, e = .returned (.bool bb)) ∧ ∃ g, QAt w' B q g (n + 1) ∧ HP.IsHeap (ltK key) g n ∧ HP.Same n (HP.swp f 0 n) g ∧ (∀ k, n ≤ k → g k = HP.swp f 0 n k) ∧ HK B q w1 w') := hide fun w1 hQ hk =>
    down_any B q n (n + 1) 0 _ key w1 hQ (by omega) (by omega) (by omega) (hK.hk h (HP.Same.swp _ _ (by omega) (by omega)) hk) hH.pop hO
  have hz : (((n + 1 : Nat) : Int) - 1) = n := by omega
  have nL := nil_Len ⟨q, 0, none⟩
  have nS := nil_Swap ⟨q, 0, none⟩
  have nP := nil_Pop ⟨q, 0, none⟩
  have mP := meth_Pop ⟨q, 0, none⟩
  clear h hK hH hO hq ho
  go_enter Tryd.func28, Tryd.ntmps28
  go_wp2_with fail
  refine cL.out.mono ?_
  rintro e w0 ⟨rfl, rfl⟩
  go_wp2_with fail
  refine cS.out.mono ?_
  rintro e w1 ⟨rfl, hQ1, hK1⟩
  have cD1 := hide (cD.out w1 hQ1 hK1)
  have HK1 := hide hK1
  clear hQ1 hK1 cD cS cL ml ms
  simp only [Int.natCast_zero] at cD1
  go_wp2_with fail
  refine cD1.out.mono ?_
  rintro e w2 ⟨⟨bb, rfl⟩, g, hQ2, hH2, hS2, hE2, hK2⟩
  have cP := hide (qPop_any B q n g w2 hQ2 (by omega))
  have HK2 := hide (HK1.out.trans hK2)
  have HR := hide (And.intro hH2 (And.intro hS2 hE2))
  clear hQ2 hH2 hS2 hE2 hK2 cD1
  go_wp2_with fail
  refine cP.out.mono ?_
  rintro e w3 ⟨rfl, hQ3, hK3⟩
  have HQ3 := hide hQ3
  have HK3 := hide (HK2.out.trans hK3)
  clear hQ3 hK3 cP
  go_wp2
  go_ret
  obtain ⟨r1, r2, r3⟩ := HR.out
  refine ⟨g, rfl, HQ3.out, r1, ?_, ?_, HK3.out⟩
  · rw [r3 n (Nat.le_refl _), HP.swp_r]
  · exact (HP.Same.swp (n + 1) f (by omega) (by omega)).trans (Same_more r2 (by omega) r3)
end Go.Proofs.YticcbaapbnfmmaaDoor
