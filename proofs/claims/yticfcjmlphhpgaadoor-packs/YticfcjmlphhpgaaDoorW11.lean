/-
  WALKS, 11: the document's answer: is a node right? the first that is wrong.
-/
import Derived.Test.YticfcjmlphhpgaaDoorW10
namespace Go.Proofs.YticfcjmlphhpgaaDoor
open Go.RowKit

theorem fold_dead (dir name : Bs) : ∀ l : List Nd, l.foldl (stepS dir name) none = none
  | [] => rfl
  | y :: r => by rw [List.foldl_cons]; exact fold_dead dir name r
theorem scan_dead (dir name : Bs) (l : List Nd) (j k : Nat) (hjk : j ≤ k) (h : scan dir name (l.take j) = none) : scan dir name (l.take k) = none := by
  obtain ⟨m, rfl⟩ : ∃ m, k = j + m := ⟨k - j, by omega⟩
  unfold scan at h ⊢
  rw [List.take_add, List.foldl_append, h]
  exact fold_dead _ _ _
theorem scan_next (dir name : Bs) (l : List Nd) (j : Nat) (h : j < l.length) : scan dir name (l.take (j + 1)) = stepS dir name (scan dir name (l.take j)) l[j] := by
  rw [List.take_succ_eq_append_getElem h, scan_snoc]

theorem stepS_go (dir name : Bs) (y : Nd) (hnm : ¬ (np y = dir ∧ y.kind = 4)) (hB : belL (np y) dir = true) (h : ¬ (dirL (np y) = dir ∧ bl (namL (np y)) name = false)) : stepS dir name (some true) y = some true := by
  simp only [stepS, if_neg hnm, hB, if_neg h]
  simp
theorem stepS_stop (dir name : Bs) (y : Nd) (hnm : ¬ (np y = dir ∧ y.kind = 4)) (hB : belL (np y) dir = true) (h : dirL (np y) = dir ∧ bl (namL (np y)) name = false) : stepS dir name (some true) y = none := by
  simp only [stepS, if_neg hnm, hB, if_pos h]
  simp
theorem below_drewN {B : Nat} {a w : World} (h : Below B a w) : ∀ q, Below B a (w.drewN q)
  | 0 => h
  | q + 1 => (below_drewN h q).drew

set_option maxRecDepth 20000 in
set_option maxHeartbeats 4000000 in
/-- The loop over the nodes ahead, once the node's own words are in order. -/
theorem right_any (b off cap : Nat) (ns : List Nd) (k : Nat) (hk : k < ns.length) (hcap : ns.length ≤ cap) (hmax : cap ≤ maxLen) (w : World) (hbl : b < w.heap.size) (hN : NodesAt w b off ns) (hsm : Small ns) :
    Calls Tryd.prog 20 #[.slice (some ⟨b, off, none⟩) ns.length cap, .int .i64 (k : Int)] w fun e w' => e = .returned (.bool (rightB (ns.take k) ns[k])) ∧ Below w.heap.size w w' := by
  obtain ⟨R, hR⟩ : ∃ R, rightB (ns.take k) ns[k] = R := ⟨_, rfl⟩
  rw [hR]
  unfold maxLen at hmax
  have hsz := hsm.1
  obtain ⟨c0, c1, c2⟩ := hN k hk
  have hsk := hsm.2 _ (List.getElem_mem hk)
  have hlk : (ns.take k).length = k := by rw [List.length_take]; omega
  have HN := hide hN
  have HS := hide hsm
  generalize hx : ns[k] = x at hR c0 c1 c2 hsk
  obtain ⟨path, kind, data⟩ := x
  simp only at c0 c1 c2 hsk
  unfold rightB at hR
  simp only [hlk] at hR
  clear hN hsm hx hlk
  have hkz : (k : Int) < ns.length := by omega
  have hkz0 : (0 : Int) ≤ k := by omega
  by_cases h30 : k < 30
  · have h30z : ¬ (30 : Int) ≤ k := by omega
    have h30b : decide ((30 : Int) ≤ k) = false := decide_eq_false h30z
    rw [decide_eq_true h30, Bool.true_and] at hR
    have cF := hide (filled_any kind data (w.alloc (.cells #[.string path, .int .i64 kind, .string data] 45)) (by omega))
    cases hfit : fits kind data.data.toList with
    | false =>
      rw [hfit] at cF hR
      simp only [Bool.false_and] at hR
      subst hR
      clear hfit
      go_enter Tryd.func20, Tryd.ntmps20
      go_wp2_with fail
      refine cF.out.mono ?_
      rintro e w1 ⟨rfl, rfl⟩
      clear cF
      go_wp2
      go_ret
      exact ⟨rfl, (Below.refl _ _).alloc (Nat.le_refl _) _⟩
    | true =>
      rw [hfit] at cF hR
      simp only [Bool.true_and] at hR
      clear hfit
      by_cases hk0 : k = 0
      · subst hk0
        simp only [List.take_zero, if_true] at hR
        have hpe : path.toList.isEmpty = R := by rw [ByteArray.toList_eq]; exact hR
        rw [Nat.zero_mul, Nat.add_zero] at c0 c1 c2
        have HPE := hide hpe
        clear hR hpe
        go_enter Tryd.func20, Tryd.ntmps20
        go_wp2_with fail
        refine cF.out.mono ?_
        rintro e w1 ⟨rfl, rfl⟩
        clear cF
        go_wp2
        go_ret
        exact ⟨by rw [← HPE.out]; rfl, (Below.refl _ _).alloc (Nat.le_refl _) _⟩
      · have hk0b : ((k : Int) == 0) = false := beq_eq_false_iff_ne.2 (by omega)
        have hne : ns.take k ≠ [] := fun e => by have := congrArg List.length e; rw [List.length_take, List.length_nil] at this; omega
        rw [if_neg hne] at hR
        unfold condB np at hR
        simp only at hR
        have hdd := dirOf_data path
        have hnd := nam_dataV path
        rw [← hdd, ← hnd] at hR
        have hns : (nam path).size ≤ 1000000 := Nat.le_trans (nam_size path) hsk.1
        have hds : (dirOf path).size ≤ 1000000 := by
          unfold dirOf; split
          · exact Nat.zero_le _
          · rw [ByteArray.size_extract]; omega
        have cS := hide (rsplit_any path (w.alloc (.cells #[.string path, .int .i64 kind, .string data] 45)) (by omega))
        generalize dirOf path = D at cS hR hds hdd
        generalize nam path = N at cS hR hns hnd
        have hbx : (w.alloc (.cells #[.string path, .int .i64 kind, .string data] 45)).heap[w.heap.size]? = some (.cells #[.string path, .int .i64 kind, .string data] 45) := block_new w _
        have hbelA : Below w.heap.size w (w.alloc (.cells #[.string path, .int .i64 kind, .string data] 45)) := (Below.refl _ _).alloc (Nat.le_refl _) _
        have hWW : ∀ n, ∃ W1, W1 = (w.alloc (.cells #[.string path, .int .i64 kind, .string data] 45)).drewN n := fun n => ⟨_, rfl⟩
        have HR := hide hR
        clear hR hdd hnd hne hk0
        by_cases hE1 : path.data.toList = []
        · have hpe : path.toList.isEmpty = true := by rw [ByteArray.toList_eq, hE1]; rfl
          have hRf : R = false := by rw [← HR.out, hE1]; rfl
          subst hRf
          clear hE1 HR hWW
          go_enter Tryd.func20, Tryd.ntmps20
          go_wp2_with fail
          refine cF.out.mono ?_
          rintro e w1 ⟨rfl, rfl⟩
          clear cF
          go_wp2_with fail
          refine cS.out.mono ?_
          rintro e w2 ⟨rfl, n2, rfl⟩
          clear cS
          go_wp2
          go_ret
          exact ⟨rfl, below_drewN hbelA n2⟩
        · have hpe : path.toList.isEmpty = false := by rw [ByteArray.toList_eq]; cases hh : path.data.toList with | nil => exact absurd hh hE1 | cons a t => rfl
          have hp0 : 0 < path.size := by
            rw [size_of_dataV (rfl : path.data.toList = path.data.toList)]
            exact List.length_pos_iff.2 hE1
          have hp0z : (0 : Int) < path.size := by omega
          have hie : path.data.toList.isEmpty = false := by rw [← ByteArray.toList_eq]; exact hpe
          have hhd : path.data.toList.head? = some path[0] := by rw [List.head?_eq_getElem?]; exact get?_of path 0 hp0
          have hR1 := HR.out
          rw [hie, hhd] at hR1
          simp only [Bool.false_or] at hR1
          clear HR hE1 hie hhd
          by_cases hE2 : path[0].toNat = 47
          · have hb : ((path[0].toNat : Int) == 47) = true := by simp [hE2]
            have hRf : R = false := by
              have : path[0] = 47 := UInt8.toNat_inj.1 hE2
              rw [← hR1, this]; rfl
            subst hRf
            clear hE2 hR1 hWW
            go_enter Tryd.func20, Tryd.ntmps20
            go_wp2_with fail
            refine cF.out.mono ?_
            rintro e w1 ⟨rfl, rfl⟩
            clear cF
            go_wp2_with fail
            refine cS.out.mono ?_
            rintro e w2 ⟨rfl, n2, rfl⟩
            clear cS
            go_wp2
            go_ret
            exact ⟨rfl, below_drewN hbelA n2⟩
          · have hb : ((path[0].toNat : Int) == 47) = false := beq_eq_false_iff_ne.2 (by omega)
            have hb2 : (some path[0] == some (47 : UInt8)) = false := by
              rw [beq_eq_false_iff_ne]; intro e; exact hE2 (by rw [Option.some.inj e]; rfl)
            rw [hb2] at hR1
            simp only [Bool.false_or] at hR1
            clear hE2 hb2
            cases hnm : isNameB N.data.toList with
            | false =>
              have hRf : R = false := by rw [← hR1, hnm]; rfl
              subst hRf
              clear hR1
              go_enter Tryd.func20, Tryd.ntmps20
              go_wp2_with fail
              refine cF.out.mono ?_
              rintro e w1 ⟨rfl, rfl⟩
              clear cF
              go_wp2_with fail
              refine cS.out.mono ?_
              rintro e w2 ⟨rfl, n2, rfl⟩
              clear cS
              have cN := hide (Name_any N ((w.alloc (.cells #[.string path, .int .i64 kind, .string data] 45)).drewN n2) (by omega))
              rw [hnm] at cN
              clear hnm
              go_wp2_with fail
              refine cN.out.mono ?_
              rintro e w3 ⟨rfl, rfl⟩
              clear cN
              go_wp2
              go_ret
              exact ⟨rfl, below_drewN hbelA n2⟩
            | true =>
              rw [hnm] at hR1
              simp only [Bool.not_true, Bool.false_or] at hR1
              by_cases hE4 : 5 < depthL path.data.toList
              · have hRf : R = false := by rw [← hR1, decide_eq_true hE4]; rfl
                have hdz : (5 : Int) < (depthL path.data.toList : Int) := by omega
                subst hRf
                clear hR1 hE4
                go_enter Tryd.func20, Tryd.ntmps20
                go_wp2_with fail
                refine cF.out.mono ?_
                rintro e w1 ⟨rfl, rfl⟩
                clear cF
                go_wp2_with fail
                refine cS.out.mono ?_
                rintro e w2 ⟨rfl, n2, rfl⟩
                clear cS
                have cN := hide (Name_any N ((w.alloc (.cells #[.string path, .int .i64 kind, .string data] 45)).drewN n2) (by omega))
                rw [hnm] at cN
                clear hnm
                go_wp2_with fail
                refine cN.out.mono ?_
                rintro e w3 ⟨rfl, rfl⟩
                clear cN
                go_wp2_with fail
                refine (depth_any path _ (by omega)).mono ?_
                rintro e w4 ⟨rfl, rfl⟩
                go_wp2
                go_ret
                exact ⟨rfl, below_drewN hbelA n2⟩
              · have hdz : ¬ (5 : Int) < (depthL path.data.toList : Int) := by omega
                have hdb : decide ((5 : Int) < (depthL path.data.toList : Int)) = false := decide_eq_false hdz
                rw [decide_eq_false hE4] at hR1
                simp only [Bool.not_false, Bool.true_and] at hR1
                have HRS := hide hR1
                clear hR1 hE4
                go_enter Tryd.func20, Tryd.ntmps20
                go_wp2_with fail
                refine cF.out.mono ?_
                rintro e w1 ⟨rfl, rfl⟩
                clear cF
                go_wp2_with fail
                refine cS.out.mono ?_
                rintro e w2 ⟨rfl, n2, rfl⟩
                clear cS
                have cN := hide (Name_any N ((w.alloc (.cells #[.string path, .int .i64 kind, .string data] 45)).drewN n2) (by omega))
                rw [hnm] at cN
                clear hnm
                go_wp2_with fail
                refine cN.out.mono ?_
                rintro e w3 ⟨rfl, rfl⟩
                clear cN
                go_wp2_with fail
                refine (depth_any path _ (by omega)).mono ?_
                rintro e w4 ⟨rfl, rfl⟩
                have hb4 : Below w.heap.size w ((w.alloc (.cells #[.string path, .int .i64 kind, .string data] 45)).drewN n2) := below_drewN hbelA n2
                generalize (w.alloc (.cells #[.string path, .int .i64 kind, .string data] 45)).drewN n2 = W2 at hb4 ⊢
                have hkc : (k : Int) ≤ cap := by omega
                have hdeadR : Hid (∀ j, j ≤ k → scan D.data.toList N.data.toList (ns.take j) = none → R = false) := fun j hj h => by
                  rw [← HRS.out, scan_dead _ _ ns j k hj h]; rfl
                have hendR : Hid (∀ bb, scan D.data.toList N.data.toList (ns.take k) = some bb → R = bb) := fun bb h => by
                  rw [← HRS.out, h]; cases bb <;> rfl
                have hszw := hb4.size
                clear HRS c0 c1 c2
                go_wp2
                go_loopw [8, 10, 11, 12, 62] (fun inn _ _ _ i w1 => ∃ (j : Nat) (bb : Bool), j ≤ k ∧ i = .int .i64 j ∧ inn = .bool bb ∧ Below w.heap.size w w1 ∧ Hid (scan D.data.toList N.data.toList (ns.take j) = some bb)) (fun _ _ _ _ i _ => k - (intOf i).toNat)
                case atStart => exact ⟨0, false, by omega, rfl, rfl, hb4, rfl⟩
                case round =>
                  obtain ⟨j, bb, hj, rfl, rfl, hbel, HSC⟩ := hrel
                  have hszr := hbel.size
                  by_cases hlt : j < k
                  · have hjl : j < ns.length := by omega
                    obtain ⟨d0, d1, d2⟩ := (HN.out.below hbel hbl) j hjl
                    have hsy := HS.out.2 _ (List.getElem_mem hjl)
                    have hnx := scan_next D.data.toList N.data.toList ns j hjl
                    rw [HSC.out] at hnx
                    generalize hy : ns[j] = y at d0 d1 d2 hsy hnx
                    obtain ⟨yp, yk, yd⟩ := y
                    simp only at d0 d1 d2 hsy
                    have hltz : (j : Int) < k := by omega
                    by_cases hpd : yp = D
                    · have hpb := eqB_true hpd
                      by_cases h4 : yk = 4
                      · have hst : Hid (scan D.data.toList N.data.toList (ns.take (j + 1)) = some true) := by
                          show _ = _; rw [hnx]; simp [stepS, np, hpd, h4]
                        subst h4
                        clear hnx hpd hy HSC
                        go_wp2
                        go_roundw
                        case rel => exact ⟨j + 1, true, by omega, by go_num, rfl, hbel.alloc hszr _, hst⟩
                        case measure => simp [intOf]; omega
                      · have h4b : (yk == 4) = false := beq_eq_false_iff_ne.2 h4
                        have hnm : ¬ (np ⟨yp, yk, yd⟩ = D.data.toList ∧ (⟨yp, yk, yd⟩ : Nd).kind = 4) := fun h => h4 h.2
                        cases bb with
                        | false =>
                          have hst : Hid (scan D.data.toList N.data.toList (ns.take (j + 1)) = some false) := by
                            show _ = _; rw [hnx]; simp only [stepS, if_neg hnm, if_true]
                          clear hnx hnm hpd hy HSC
                          go_wp2
                          go_roundw
                          case rel => exact ⟨j + 1, false, by omega, by go_num, rfl, hbel.alloc hszr _, hst⟩
                          case measure => simp [intOf]; omega
                        | true =>
                          have cB := hide (below_any yp D (wr.alloc (.cells #[.string yp, .int .i64 yk, .string yd] 45)) (by omega) (by omega))
                          rw [belowL_eq] at cB
                          cases hB : belL yp.data.toList D.data.toList with
                          | false =>
                            have hst : scan D.data.toList N.data.toList (ns.take (j + 1)) = none := by
                              rw [hnx]; simp only [stepS, if_neg hnm]; simp [np, hB]
                            have hRf := hdeadR.out (j + 1) (by omega) hst
                            subst hRf
                            rw [hB] at cB
                            clear hnx hnm hpd hy HSC hdeadR hendR hst hB
                            go_wp2_with fail
                            refine cB.out.mono ?_
                            rintro e w3 ⟨rfl, rfl⟩
                            clear cB
                            go_wp2
                            go_ret
                            exact ⟨rfl, hbel.alloc hszr _⟩
                          | true =>
                            rw [hB] at cB
                            have cY := hide (rsplit_any yp (wr.alloc (.cells #[.string yp, .int .i64 yk, .string yd] 45)) (by omega))
                            have hdd2 := dirOf_data yp
                            have hnd2 := nam_dataV yp
                            by_cases hup : dirOf yp = D
                            · have hupb := eqB_true hup
                              cases hBL : Op.bytesLess (nam yp).toList N.toList with
                              | true =>
                                have hst : Hid (scan D.data.toList N.data.toList (ns.take (j + 1)) = some true) := by
                                  have hb1 : bl (namL (np ⟨yp, yk, yd⟩)) N.data.toList = true := by
                                    show Op.bytesLess (namL yp.data.toList) N.data.toList = true
                                    rw [← hnd2, ← ByteArray.toList_eq, ← ByteArray.toList_eq]; exact hBL
                                  show _ = _; rw [hnx]
                                  exact stepS_go _ _ _ hnm hB (fun h => by rw [hb1] at h; cases h.2)
                                generalize dirOf yp = up at cY hupb
                                generalize nam yp = last at cY hBL
                                clear hnx hnm hpd hy HSC hB hdd2 hnd2 hup
                                go_wp2_with fail
                                refine cB.out.mono ?_
                                rintro e w3 ⟨rfl, rfl⟩
                                clear cB
                                go_wp2_with fail
                                refine cY.out.mono ?_
                                rintro e w4 ⟨rfl, n4, rfl⟩
                                clear cY
                                go_wp2
                                go_roundw
                                case rel => exact ⟨j + 1, true, by omega, by go_num, rfl, below_drewN (hbel.alloc hszr _) n4, hst⟩
                                case measure => simp [intOf]; omega
                              | false =>
                                have hst : scan D.data.toList N.data.toList (ns.take (j + 1)) = none := by
                                  have hb1 : bl (namL (np ⟨yp, yk, yd⟩)) N.data.toList = false := by
                                    show Op.bytesLess (namL yp.data.toList) N.data.toList = false
                                    rw [← hnd2, ← ByteArray.toList_eq, ← ByteArray.toList_eq]; exact hBL
                                  have hd1 : dirL (np ⟨yp, yk, yd⟩) = D.data.toList := by
                                    show dirL yp.data.toList = _
                                    rw [← hdd2, hup]
                                  rw [hnx]; exact stepS_stop _ _ _ hnm hB ⟨hd1, hb1⟩
                                have hRf := hdeadR.out (j + 1) (by omega) hst
                                subst hRf
                                generalize dirOf yp = up at cY hupb
                                generalize nam yp = last at cY hBL
                                clear hnx hnm hpd hy HSC hB hdd2 hnd2 hup hdeadR hendR hst
                                go_wp2_with fail
                                refine cB.out.mono ?_
                                rintro e w3 ⟨rfl, rfl⟩
                                clear cB
                                go_wp2_with fail
                                refine cY.out.mono ?_
                                rintro e w4 ⟨rfl, n4, rfl⟩
                                clear cY
                                go_wp2
                                go_ret
                                exact ⟨rfl, below_drewN (hbel.alloc hszr _) n4⟩
                            · have hupb := eqB_false hup
                              have hst : Hid (scan D.data.toList N.data.toList (ns.take (j + 1)) = some true) := by
                                have hd1 : ¬ dirL (np ⟨yp, yk, yd⟩) = D.data.toList := by
                                  show ¬ dirL yp.data.toList = _
                                  rw [← hdd2]; exact fun e => hup (WideShapes.bytes_inj e)
                                show _ = _; rw [hnx]
                                exact stepS_go _ _ _ hnm hB (fun h => hd1 h.1)
                              generalize dirOf yp = up at cY hupb
                              generalize nam yp = last at cY
                              clear hnx hnm hpd hy HSC hB hdd2 hnd2 hup
                              go_wp2_with fail
                              refine cB.out.mono ?_
                              rintro e w3 ⟨rfl, rfl⟩
                              clear cB
                              go_wp2_with fail
                              refine cY.out.mono ?_
                              rintro e w4 ⟨rfl, n4, rfl⟩
                              clear cY
                              go_wp2
                              go_roundw
                              case rel => exact ⟨j + 1, true, by omega, by go_num, rfl, below_drewN (hbel.alloc hszr _) n4, hst⟩
                              case measure => simp [intOf]; omega
                    · have hpb := eqB_false hpd
                      have hnm : ¬ (np ⟨yp, yk, yd⟩ = D.data.toList ∧ (⟨yp, yk, yd⟩ : Nd).kind = 4) := fun h => hpd (WideShapes.bytes_inj h.1)
                      cases bb with
                      | false =>
                        have hst : Hid (scan D.data.toList N.data.toList (ns.take (j + 1)) = some false) := by
                          show _ = _; rw [hnx]; simp only [stepS, if_neg hnm, if_true]
                        clear hnx hnm hpd hy HSC
                        go_wp2
                        go_roundw
                        case rel => exact ⟨j + 1, false, by omega, by go_num, rfl, hbel.alloc hszr _, hst⟩
                        case measure => simp [intOf]; omega
                      | true =>
                        have cB := hide (below_any yp D (wr.alloc (.cells #[.string yp, .int .i64 yk, .string yd] 45)) (by omega) (by omega))
                        rw [belowL_eq] at cB
                        cases hB : belL yp.data.toList D.data.toList with
                        | false =>
                          have hst : scan D.data.toList N.data.toList (ns.take (j + 1)) = none := by
                            rw [hnx]; simp only [stepS, if_neg hnm]; simp [np, hB]
                          have hRf := hdeadR.out (j + 1) (by omega) hst
                          subst hRf
                          rw [hB] at cB
                          clear hnx hnm hpd hy HSC hdeadR hendR hst hB
                          go_wp2_with fail
                          refine cB.out.mono ?_
                          rintro e w3 ⟨rfl, rfl⟩
                          clear cB
                          go_wp2
                          go_ret
                          exact ⟨rfl, hbel.alloc hszr _⟩
                        | true =>
                          rw [hB] at cB
                          have cY := hide (rsplit_any yp (wr.alloc (.cells #[.string yp, .int .i64 yk, .string yd] 45)) (by omega))
                          have hdd2 := dirOf_data yp
                          have hnd2 := nam_dataV yp
                          by_cases hup : dirOf yp = D
                          · have hupb := eqB_true hup
                            cases hBL : Op.bytesLess (nam yp).toList N.toList with
                            | true =>
                              have hst : Hid (scan D.data.toList N.data.toList (ns.take (j + 1)) = some true) := by
                                have hb1 : bl (namL (np ⟨yp, yk, yd⟩)) N.data.toList = true := by
                                  show Op.bytesLess (namL yp.data.toList) N.data.toList = true
                                  rw [← hnd2, ← ByteArray.toList_eq, ← ByteArray.toList_eq]; exact hBL
                                show _ = _; rw [hnx]
                                exact stepS_go _ _ _ hnm hB (fun h => by rw [hb1] at h; cases h.2)
                              generalize dirOf yp = up at cY hupb
                              generalize nam yp = last at cY hBL
                              clear hnx hnm hpd hy HSC hB hdd2 hnd2 hup
                              go_wp2_with fail
                              refine cB.out.mono ?_
                              rintro e w3 ⟨rfl, rfl⟩
                              clear cB
                              go_wp2_with fail
                              refine cY.out.mono ?_
                              rintro e w4 ⟨rfl, n4, rfl⟩
                              clear cY
                              go_wp2
                              go_roundw
                              case rel => exact ⟨j + 1, true, by omega, by go_num, rfl, below_drewN (hbel.alloc hszr _) n4, hst⟩
                              case measure => simp [intOf]; omega
                            | false =>
                              have hst : scan D.data.toList N.data.toList (ns.take (j + 1)) = none := by
                                have hb1 : bl (namL (np ⟨yp, yk, yd⟩)) N.data.toList = false := by
                                  show Op.bytesLess (namL yp.data.toList) N.data.toList = false
                                  rw [← hnd2, ← ByteArray.toList_eq, ← ByteArray.toList_eq]; exact hBL
                                have hd1 : dirL (np ⟨yp, yk, yd⟩) = D.data.toList := by
                                  show dirL yp.data.toList = _
                                  rw [← hdd2, hup]
                                rw [hnx]; exact stepS_stop _ _ _ hnm hB ⟨hd1, hb1⟩
                              have hRf := hdeadR.out (j + 1) (by omega) hst
                              subst hRf
                              generalize dirOf yp = up at cY hupb
                              generalize nam yp = last at cY hBL
                              clear hnx hnm hpd hy HSC hB hdd2 hnd2 hup hdeadR hendR hst
                              go_wp2_with fail
                              refine cB.out.mono ?_
                              rintro e w3 ⟨rfl, rfl⟩
                              clear cB
                              go_wp2_with fail
                              refine cY.out.mono ?_
                              rintro e w4 ⟨rfl, n4, rfl⟩
                              clear cY
                              go_wp2
                              go_ret
                              exact ⟨rfl, below_drewN (hbel.alloc hszr _) n4⟩
                          · have hupb := eqB_false hup
                            have hst : Hid (scan D.data.toList N.data.toList (ns.take (j + 1)) = some true) := by
                              have hd1 : ¬ dirL (np ⟨yp, yk, yd⟩) = D.data.toList := by
                                show ¬ dirL yp.data.toList = _
                                rw [← hdd2]; exact fun e => hup (WideShapes.bytes_inj e)
                              show _ = _; rw [hnx]
                              exact stepS_go _ _ _ hnm hB (fun h => hd1 h.1)
                            generalize dirOf yp = up at cY hupb
                            generalize nam yp = last at cY
                            clear hnx hnm hpd hy HSC hB hdd2 hnd2 hup
                            go_wp2_with fail
                            refine cB.out.mono ?_
                            rintro e w3 ⟨rfl, rfl⟩
                            clear cB
                            go_wp2_with fail
                            refine cY.out.mono ?_
                            rintro e w4 ⟨rfl, n4, rfl⟩
                            clear cY
                            go_wp2
                            go_roundw
                            case rel => exact ⟨j + 1, true, by omega, by go_num, rfl, below_drewN (hbel.alloc hszr _) n4, hst⟩
                            case measure => simp [intOf]; omega
                  · obtain rfl : j = k := by omega
                    have hRv := hendR.out bb HSC.out
                    subst hRv
                    clear hendR hdeadR HSC
                    go_wp2
                    go_ret
                    exact ⟨rfl, hbel⟩
  · have h30z : (30 : Int) ≤ k := by omega
    rw [decide_eq_false h30] at hR
    simp only [Bool.false_and] at hR
    subst hR
    go_enter Tryd.func20, Tryd.ntmps20
    go_wp2
    go_ret
    exact ⟨rfl, (Below.refl _ _).alloc (Nat.le_refl _) _⟩
end Go.Proofs.YticfcjmlphhpgaaDoor
