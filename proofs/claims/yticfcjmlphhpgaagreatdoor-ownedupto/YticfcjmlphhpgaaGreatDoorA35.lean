import Derived.Test.YticfcjmlphhpgaaGreatDoorA34
/-
  THE LAW: scripts that are small.
-/
namespace Go.Proofs.YticfcjmlphhpgaaGreatDoor
open Go.RowKit Go.Maps

set_option maxRecDepth 20000 in
set_option maxHeartbeats 4000000 in
theorem weightB_any (v : Value) (ns : List Nd) (w : World) (hv : SliceN w v ns) (hln : ns.length ≤ 140737488355328) (hsz : ∀ y ∈ ns, y.path.size ≤ 140737488355328 ∧ y.data.size ≤ 140737488355328) :
    Calls Tryz.prog 13 #[v] w fun e w' => ∃ n : Nat, e = .returned (.int .i64 (n : Int)) ∧ n ≤ 562949953421312 ∧ (n ≤ 262144 → ns.length ≤ 262144 ∧ ∀ y ∈ ns, y.path.size ≤ 262144 ∧ y.data.size ≤ 262144) ∧ Below w.heap.size w w' := by
  obtain ⟨a, cap, rfl, hcap, hmax, hnone, hcells⟩ := hv
  by_cases hn : ns.length = 0
  · have hns : ns = [] := List.eq_nil_of_length_eq_zero hn
    subst hns
    clear hcells
    go_enter Tryz.func13, Tryz.ntmps13
    go_wp2
    refine wp_loop_rounds 1 ?_
    rw [rounds_succ]
    go_wp2
    go_ret
    exact ⟨0, rfl, by omega, (fun _ => ⟨by simp, fun y hy => by cases hy⟩), Below.refl _ _⟩
  · obtain ⟨b, off, rfl, hbl, hN⟩ := hcells (by omega)
    have HN := hide hN
    have HS := hide hsz
    clear hN hsz hcells hnone
    go_enter Tryz.func13, Tryz.ntmps13
    go_wp2
    go_loopw [3, 5, 10] (fun n _ i w1 => ∃ j q : Nat, j ≤ ns.length ∧ i = .int .i64 j ∧ n = .int .i64 (q : Int) ∧ q ≤ 140737488355328 ∧ ns.length ≤ q ∧ (q ≤ 262144 ∨ j = 0) ∧ Hid (∀ k (hk : k < ns.length), k < j → ns[k].path.size ≤ q ∧ ns[k].data.size ≤ q) ∧ Below w.heap.size w w1) (fun _ _ i _ => ns.length - (intOf i).toNat)
    case atStart => exact ⟨0, ns.length, by omega, rfl, rfl, by omega, Nat.le_refl _, .inr rfl, (fun k _ h => by omega), Below.refl _ _⟩
    case round =>
      obtain ⟨j, q, hj, rfl, rfl, hq, hlq, hor, hall, hbel⟩ := hrel
      have hszr := hbel.size
      by_cases hlt : j < ns.length
      · obtain ⟨c0, c1, c2⟩ := (HN.out.below hbel hbl) j hlt
        have hs := HS.out _ (List.getElem_mem hlt)
        generalize hy : ns[j] = y at c0 c1 c2 hs
        obtain ⟨yp, yk, yd⟩ := y
        simp only at c0 c1 c2 hs
        have HY := hide hy
        clear hy
        by_cases hbig : (262144 : Int) < (q : Int) + ((yp.size : Int) + yd.size)
        · go_wp2
          go_ret
          exact ⟨q + (yp.size + yd.size), by go_num, by omega, fun h => by omega, hbel.alloc hszr _⟩
        · go_wp2
          go_roundw
          case rel =>
            refine ⟨j + 1, q + (yp.size + yd.size), by omega, by go_num, by go_num, by omega, by omega, .inl (by omega), ?_, hbel.alloc hszr _⟩
            intro k hk h
            by_cases e : k = j
            · subst e; rw [HY.out]; exact ⟨by simp only; omega, by simp only; omega⟩
            · have := hall.out k hk (by omega); omega
          case measure => simp [intOf]; omega
      · obtain rfl : j = ns.length := by omega
        go_wp2
        go_ret
        refine ⟨q, rfl, by omega, fun h => ⟨by omega, fun y hy => ?_⟩, hbel⟩
        obtain ⟨k, hk, rfl⟩ := List.getElem_of_mem hy
        have := hall.out k hk hk
        omega
theorem wrapN (n : Int) (h0 : 0 ≤ n) (h1 : n < 9223372036854775808) : IntKind.i64.wrap n = n := by
  rw [IntKind.wrap_i64]; omega
theorem wrap4 (N a b n d : Nat) (hN : N ≤ 562949953421312) (ha : a ≤ 562949953421312) (hb : b ≤ 562949953421312) (hn : n ≤ 562949953421312) (hd : d ≤ 562949953421312) : IntKind.i64.wrap ((N : Int) + IntKind.i64.wrap (IntKind.i64.wrap (IntKind.i64.wrap ((a : Int) + b) + n) + d)) = ((N + (a + b + n + d) : Nat) : Int) := by
  rw [wrapN ((a : Int) + b) (by omega) (by omega), wrapN ((a : Int) + b + n) (by omega) (by omega), wrapN ((a : Int) + b + n + d) (by omega) (by omega), wrapN _ (by omega) (by omega)]
  omega
set_option maxRecDepth 20000 in
set_option maxHeartbeats 4000000 in
theorem reg11_5 (ob N dn lc dc ln : Nat) (s b : ByteArray) (la da : Option Addr) (WP : Nat → Prop) (w : World) (hN : N ≤ 1000000000000) (hs : s.size ≤ 1000000000000) (hb : b.size ≤ 1000000000000) (hd : dn ≤ 1000000000000) (c3 : w.cell? ⟨ob, 3, none⟩ = some (.string s)) (c4 : w.cell? ⟨ob, 4, none⟩ = some (.string b)) (c5 : w.cell? ⟨ob, 5, none⟩ = some (.slice la ln lc)) (c7 : w.cell? ⟨ob, 7, none⟩ = some (.slice da dn dc))
    (cW : ∀ V : World, Below w.heap.size w V → Calls Tryz.prog 13 #[.slice la ln lc] V fun e w' => ∃ n : Nat, e = .returned (.int .i64 (n : Int)) ∧ n ≤ 562949953421312 ∧ WP n ∧ Below V.heap.size V w') (u0 u1 u2 u4 u6 u7 u8 u9 u10 u11 u12 u13 u14 u15 u16 u17 u18 u19 u20 u21 u22 u23 u24 u25 u26 u27 u28 u29 u30 u31 u32 u33 u34 u35 u36 u37 u38 u39 u40 u41 u42 u43 u44 u45 u46 u47 u48 u49 u50 : Value) :
    Code.wp Tryz.prog (regC Tryz.f11 5) (Exit.then (fun a w' => (∃ v3 v16 v17 v18 v19 v20 v21 v22 v23 v24 v25 v26 v27 v28 v29 v30 v31 v32 : Value, a = ⟨#[u0, u1, u2, v3, u4, .pointer (some ⟨ob, 0, none⟩), u6, u7, u8, u9, u10, u11, u12, u13, u14, u15, v16, v17, v18, v19, v20, v21, v22, v23, v24, v25, v26, v27, v28, v29, v30, v31, v32, u33, u34, u35, u36, u37, u38, u39, u40, u41, u42, u43, u44, u45, u46, u47, u48, u49, u50], []⟩ ∧ ∃ n : Nat, v3 = .int .i64 ((N + (s.size + b.size + n + dn) : Nat) : Int) ∧ n ≤ 562949953421312 ∧ WP n) ∧ Below w.heap.size w w') (fun _ _ _ => False)) ⟨#[u0, u1, u2, .int .i64 (N : Nat), u4, .pointer (some ⟨ob, 0, none⟩), u6, u7, u8, u9, u10, u11, u12, u13, u14, u15, u16, u17, u18, u19, u20, u21, u22, u23, u24, u25, u26, u27, u28, u29, u30, u31, u32, u33, u34, u35, u36, u37, u38, u39, u40, u41, u42, u43, u44, u45, u46, u47, u48, u49, u50], []⟩ w := by
  unfold regC
  conv => arg 2; whnf
  have CW := hide cW
  have HW0 := hide (drewB w)
  clear cW
  go_region_held3 (fun w' => w'.cell? ⟨ob, 3, none⟩ = some (.string s) ∧ w'.cell? ⟨ob, 4, none⟩ = some (.string b) ∧ w'.cell? ⟨ob, 5, none⟩ = some (.slice la ln lc) ∧ w'.cell? ⟨ob, 7, none⟩ = some (.slice da dn dc)) (go_keep) (first
    | (go_at_call 13; refine (CW.out _ HW0.out).mono ?_; rintro e w1 ⟨n, rfl, hn, hWP, hb1⟩; have HW1 := hide (HW0.out.trans (hb1.mono HW0.out.size)); have HWP := hide hWP; have g0 := cellB HW1.out c3; have g1 := cellB HW1.out c4; have g2 := cellB HW1.out c5; have g3 := cellB HW1.out c7; clear hb1 hWP))
  all_goals refine ⟨⟨_, _, _, _, _, _, _, _, _, _, _, _, _, _, _, _, _, _, rfl, n, ?_, hn, HWP.out⟩, HW1.out⟩
  all_goals exact congrArg (Value.int .i64) (wrap4 _ _ _ _ _ (by omega) (by omega) (by omega) (by omega) (by omega))
/-- A script in memory. -/
def ScrAt (w : World) (b off : Nat) (os : List Opx) : Prop := ∀ j (h : j < os.length), w.cell? ⟨b, off + j * 8, none⟩ = some (.int .i64 os[j].kind) ∧ w.cell? ⟨b, off + j * 8 + 1, none⟩ = some (.int .i64 os[j].ia) ∧ w.cell? ⟨b, off + j * 8 + 2, none⟩ = some (.int .i64 os[j].ic) ∧ w.cell? ⟨b, off + j * 8 + 3, none⟩ = some (.string os[j].s) ∧ w.cell? ⟨b, off + j * 8 + 4, none⟩ = some (.string os[j].b) ∧ w.cell? ⟨b, off + j * 8 + 5, none⟩ = some (.slice os[j].la os[j].ns.length os[j].lc) ∧ w.cell? ⟨b, off + j * 8 + 6, none⟩ = some (.slice os[j].ma os[j].ms.length os[j].mc) ∧ w.cell? ⟨b, off + j * 8 + 7, none⟩ = some (.slice os[j].da os[j].ds.length os[j].dc)
structure SliceO (w : World) (v : Value) (os : List Opx) : Prop where
  sh : ∃ a cap, v = .slice a os.length cap ∧ (0 < os.length → ∃ b off, a = some ⟨b, off, none⟩ ∧ b < w.heap.size ∧ ScrAt w b off os)
  at_ : ∀ o ∈ os, OpAt w o
/-- What is known of a script that is small. -/
def SmR (os : List Opx) (bb : Bool) : Prop := bb = true → os.length ≤ 262144 ∧ ∀ o ∈ os, OpOk o
def RetB (os : List Opx) (e : Ending) : Prop := ∃ bb, e = .returned (.bool bb) ∧ SmR os bb
theorem RetB.mk {os : List Opx} (bb : Bool) (h : bb = true → os.length ≤ 262144 ∧ ∀ o ∈ os, OpOk o) : RetB os (.returned (.bool bb)) := ⟨bb, rfl, h⟩
/-- Sizes that no sum passes. -/
structure OpSz (o : Opx) : Prop where
  s : o.s.size ≤ 2097152
  b : o.b.size ≤ 2097152
  ns : o.ns.length ≤ 2097152 ∧ ∀ n ∈ o.ns, n.path.size ≤ 2097152 ∧ n.data.size ≤ 2097152
  ms : o.ms.length ≤ 2097152 ∧ ∀ r ∈ o.ms, r.size ≤ 2097152
  ds : o.ds.length ≤ 2097152
set_option maxRecDepth 20000 in
set_option maxHeartbeats 8000000 in
theorem small_any (v : Value) (os : List Opx) (w : World) (h : SliceO w v os) (hz : ∀ o ∈ os, OpSz o) (hol : os.length ≤ 2097152) :
    Calls Tryz.prog 11 #[v] w fun e w' => RetB os e ∧ Below w.heap.size w w' := by
  obtain ⟨⟨a, cap, rfl, hsc⟩, hat⟩ := h
  have HAT := hide hat
  have HZ := hide hz
  have HSC := hide hsc
  clear hsc hat hz
  go_enter Tryz.func11, Tryz.ntmps11
  go_wp2
  go_loopw [3, 12] (fun nv iv w2 => ∃ (j N : Nat), j ≤ os.length ∧ iv = .int .i64 j ∧ nv = .int .i64 (N : Int) ∧ os.length ≤ N ∧ (N ≤ 262144 ∨ (j = 0 ∧ N ≤ 2097152)) ∧ Hid (Below w.heap.size w w2) ∧ Hid (∀ k (hk : k < os.length), k < j → OpOk os[k])) (fun _ iv _ => os.length - (intOf iv).toNat)
  case atStart => exact ⟨0, os.length, by omega, rfl, rfl, Nat.le_refl _, .inr ⟨rfl, hol⟩, hide (Below.refl _ _), hide (fun k _ hk => by omega)⟩
  case round =>
    obtain ⟨j, N, hj, rfl, rfl, hNl, hNb, HB2, HALL⟩ := hrel
    by_cases hlt : j < os.length
    · have hltz : (j : Int) < os.length := by omega
      obtain ⟨sb, so, hsa, hsb, hS⟩ := HSC.out (by omega)
      subst hsa
      obtain ⟨e0, e1, e2, e3, e4, e5, e6, e7⟩ := hS j hlt
      have d0 := cellB HB2.out e0
      have d1 := cellB HB2.out e1
      have d2 := cellB HB2.out e2
      have d3 := cellB HB2.out e3
      have d4 := cellB HB2.out e4
      have d5 := cellB HB2.out e5
      have d6 := cellB HB2.out e6
      have d7 := cellB HB2.out e7
      have HO := hide (And.intro (HAT.out _ (List.getElem_mem hlt)) (HZ.out _ (List.getElem_mem hlt)))
      have HNX : Hid (OpOk os[j] → ∀ k (hk : k < os.length), k < j + 1 → OpOk os[k]) := hide fun ho k hk hkj => by
        by_cases e' : k = j
        · subst e'; exact ho
        · exact HALL.out k hk (by omega)
      generalize os[j] = o at *
      clear hS e0 e1 e2 e3 e4 e5 e6 e7 HALL
      have HB3 := hide (belA HB2.out (.cells #[.int .i64 o.kind, .int .i64 o.ia, .int .i64 o.ic, .string o.s, .string o.b, .slice o.la o.ns.length o.lc, .slice o.ma o.ms.length o.mc, .slice o.da o.ds.length o.dc] 29))
      obtain ⟨o0, o1, o2, o3, o4, o5, o6, o7⟩ := eight_new wr (.int .i64 o.kind) (.int .i64 o.ia) (.int .i64 o.ic) (.string o.s) (.string o.b) (.slice o.la o.ns.length o.lc) (.slice o.ma o.ms.length o.mc) (.slice o.da o.ds.length o.dc) 29 _ rfl
      have cW := hide (fun V (hV : Below w.heap.size w V) => weightB_any _ o.ns V (HO.out.1.l.below hV) (by have := HO.out.2.ns.1; omega) (fun y hy => by have := HO.out.2.ns.2 y hy; omega))
      have hsz := HO.out.2
      have hs1 := hsz.s
      have hs2 := hsz.b
      have hs3 := hsz.ds
      have hs4 := hsz.ms.1
      go_wp2
      refine wp_mono (reg11_5 wr.heap.size N o.ds.length o.lc o.dc o.ns.length o.s o.b o.la o.da _ _ (by omega) (by omega) (by omega) (by omega) o3 o4 o5 o7 (fun V hV => cW.out V (HB3.out.trans (hV.mono HB3.out.size))) _ _ _ _ _ _ _ _ _ _ _ _ _ _ _ _ _ _ _ _ _ _ _ _ _ _ _ _ _ _ _ _ _ _ _ _ _ _ _ _ _ _ _ _ _ _ _ _ _ ) (reg_then ?_)
      rintro a w4 ⟨⟨v3, v16, v17, v18, v19, v20, v21, v22, v23, v24, v25, v26, v27, v28, v29, v30, v31, v32, rfl, n, rfl, hn, hWP⟩, hb4⟩
      have HB4 := hide (HB3.out.trans (hb4.mono HB3.out.size))
      have p6 := cellB hb4 o6
      have HWP := hide hWP
      obtain ⟨N1, hN1⟩ : ∃ N1, N + (o.s.size + o.b.size + n + o.ds.length) = N1 := ⟨_, rfl⟩
      rw [hN1]
      have hN1b : N1 ≤ 1000000000000000 := by omega
      obtain ⟨ma, mc, hme, _, hmc⟩ := HO.out.1.m
      injection hme with hme1 _ hme2
      have HMC := hide hmc
      clear hb4 hWP d0 d1 d2 d3 d4 d5 d6 d7 o0 o1 o2 o3 o4 o5 o6 o7 cW hsz hmc
      obtain ⟨w5, hw5⟩ : ∃ w5, w5 = w4 := ⟨_, rfl⟩
      subst hw5
      go_wp2
      go_loopw [3, 36] (fun nv tv w6 => ∃ t N2 : Nat, t ≤ o.ms.length ∧ tv = .int .i64 t ∧ nv = .int .i64 (N2 : Int) ∧ N1 + t ≤ N2 ∧ N2 ≤ N1 + t * 2097153 ∧ Hid (∀ k (hk : k < o.ms.length), k < t → o.ms[k].size ≤ N2) ∧ Hid (w6 = w5)) (fun _ tv _ => o.ms.length - (intOf tv).toNat)
      case atStart => exact ⟨0, N1, by omega, rfl, rfl, by omega, by omega, hide (fun k _ hk => by omega), hide rfl⟩
      case round =>
        obtain ⟨t, N2, ht, rfl, rfl, hN2, hN2b, HM2, HW6⟩ := hrel
        have hw6 := HW6.out
        subst hw6
        clear HW6
        have htb : t * 2097153 ≤ 2097152 * 2097153 := Nat.mul_le_mul_right _ (by omega)
        by_cases hltt : t < o.ms.length
        · have hlttz : (t : Int) < o.ms.length := by omega
          obtain ⟨mb, mo, hma, hmb, hmcell⟩ := HMC.out (by omega)
          have c0 := cellB HB4.out (hmcell t hltt)
          have hrs := HO.out.2.ms.2 _ (List.getElem_mem hltt)
          rw [hma] at hme1
          have HM3 : Hid (∀ k (hk : k < o.ms.length), k < t + 1 → o.ms[k].size ≤ N2 + (1 + o.ms[t].size)) := hide fun k hk hkt => by
            by_cases e' : k = t
            · subst e'; omega
            · have := HM2.out k hk (by omega); omega
          generalize o.ms[t] = x at c0 hrs HM3
          clear hmcell HM2
          go_wp2
          go_roundw
          case rel => exact ⟨t + 1, N2 + (1 + x.size), by omega, by go_num, by go_num, by omega, by omega, HM3, by first | exact hide rfl | exact hide trivial⟩
          case measure => simp [intOf]; omega
        · obtain rfl : t = o.ms.length := by omega
          have hlttz : ¬ ((o.ms.length : Nat) : Int) < o.ms.length := by omega
          by_cases hbig : 262144 < N2
          · have hbigz : (262144 : Int) < N2 := by omega
            go_wp2
            go_ret
            exact ⟨RetB.mk false (fun h => by cases h), HB4.out⟩
          · have hbigz : ¬ (262144 : Int) < N2 := by omega
            have HOK : Hid (OpOk o) := hide ⟨by omega, HWP.out (by omega), by omega, fun r hr => by
              obtain ⟨k, hk, rfl⟩ := List.getElem_of_mem hr
              have := HM2.out k hk hk; omega⟩
            go_wp2
            go_roundw
            case rel => exact ⟨j + 1, N2, by omega, by go_num, rfl, by omega, .inl (by omega), HB4, hide (HNX.out HOK.out)⟩
            case measure => simp [intOf]; omega
    · obtain rfl : j = os.length := by omega
      have hltz : ¬ ((os.length : Nat) : Int) < os.length := by omega
      have HFIN : Hid (N ≤ 262144 → os.length ≤ 262144 ∧ ∀ o ∈ os, OpOk o) := hide fun hN => ⟨by omega, fun o ho => by
        obtain ⟨k, hk, rfl⟩ := List.getElem_of_mem ho
        exact HALL.out k hk hk⟩
      clear HALL
      go_wp2
      go_ret
      exact ⟨RetB.mk _ (fun hb => HFIN.out (by have := of_decide_eq_true hb; omega)), HB2.out⟩
end Go.Proofs.YticfcjmlphhpgaaGreatDoor
/-
  THE LAW: a script, step by step.
-/
namespace Go.Proofs.YticfcjmlphhpgaaGreatDoor
open Go.RowKit Go.Maps

set_option maxRecDepth 20000 in
set_option maxHeartbeats 4000000 in
theorem reg12_6 (ob : Nat) (y k : Int) (w : World) (c0 : w.cell? ⟨ob, 0, none⟩ = some (.int .i64 k)) (u0 u2 u3 u4 u5 u6 u8 u9 u10 u11 u12 u13 u14 u15 u16 u17 u18 u19 u20 u21 u22 u23 u24 u25 u26 u27 u28 u29 u30 u31 u32 u33 u34 u35 u36 u37 u38 u39 u40 u41 u42 u43 u44 u45 u46 u47 u48 u49 u50 u51 u52 u53 u54 u55 u56 u57 u58 u59 u60 u61 u62 u63 u64 u65 u66 u67 u68 u69 u70 u71 u72 u73 u74 u75 u76 u77 u78 u79 u80 u81 u82 : Value) :
    Code.wp Tryz.prog (regC Tryz.f12 6) (Exit.then (fun a w' => (∃ v8 v29 v30 v31 v32 v33 v34 v35 v36 v37 v38 v39 v40 v41 v42 v43 v44 v45 v46 v47 v48 v49 v50 v51 v52 v53 v54 v55 : Value, a = ⟨#[u0, .int .i64 y, u2, u3, u4, u5, u6, .pointer (some ⟨ob, 0, none⟩), v8, u9, u10, u11, u12, u13, u14, u15, u16, u17, u18, u19, u20, u21, u22, u23, u24, u25, u26, u27, u28, v29, v30, v31, v32, v33, v34, v35, v36, v37, v38, v39, v40, v41, v42, v43, v44, v45, v46, v47, v48, v49, v50, v51, v52, v53, v54, v55, u56, u57, u58, u59, u60, u61, u62, u63, u64, u65, u66, u67, u68, u69, u70, u71, u72, u73, u74, u75, u76, u77, u78, u79, u80, u81, u82], []⟩) ∧ Hid (w' = w)) (fun _ _ _ => False)) ⟨#[u0, .int .i64 y, u2, u3, u4, u5, u6, .pointer (some ⟨ob, 0, none⟩), u8, u9, u10, u11, u12, u13, u14, u15, u16, u17, u18, u19, u20, u21, u22, u23, u24, u25, u26, u27, u28, u29, u30, u31, u32, u33, u34, u35, u36, u37, u38, u39, u40, u41, u42, u43, u44, u45, u46, u47, u48, u49, u50, u51, u52, u53, u54, u55, u56, u57, u58, u59, u60, u61, u62, u63, u64, u65, u66, u67, u68, u69, u70, u71, u72, u73, u74, u75, u76, u77, u78, u79, u80, u81, u82], []⟩ w := by
  unfold regC
  conv => arg 2; whnf
  go_wp2
  all_goals (try subst_vars)
  all_goals exact ⟨⟨_, _, _, _, _, _, _, _, _, _, _, _, _, _, _, _, _, _, _, _, _, _, _, _, _, _, _, _, rfl⟩, by first | exact hide rfl | exact hide trivial⟩
theorem WR.start (w : World) (W : World) (hW : W.heap[w.heap.size]? = some (.cells #[.slice none 0 0, .slice none 0 0, .slice none 0 0, .slice none 0 0, .bool false] 36 (0, 0))) : WR (fun _ => False) w.heap.size w.heap.size [] [] [] [] (.slice none 0 0) (.slice none 0 0) (.slice none 0 0) (.slice none 0 0) W :=
  ⟨hW, Nat.le_refl _, World.ownsRow_nil _ _ _ _, World.ownsRow_nil _ _ _ _, World.ownsRow_nil _ _ _ _, World.ownsRow_nil _ _ _ _, (fun k h => by simp at h), (fun k h => by simp at h), (fun x hx => by cases hx), (fun x hx => by cases hx), (fun g _ hF => hF), (fun p hp => by cases hp), List.Pairwise.nil⟩
set_option maxRecDepth 20000 in
set_option maxHeartbeats 8000000 in
theorem UpTo_three (v : Value) (os : List Opx) (y : Int) (hy0 : y ≠ 0) (hy5 : y ≤ 5) (w : World) (h : SliceO w v os) (hT : Lib.Utf8Tabs 0 1 w) (hol : os.length ≤ 262144) (hok : ∀ o ∈ os, OpOk o) :
    Calls Tryz.prog 12 #[v, .int .i64 y] w fun e w' => e = .returned (.int .i64 (-1)) ∧ Below w.heap.size w w' := by
  obtain ⟨⟨a, cap, rfl, hsc⟩, hat⟩ := h
  have HAT := hide hat
  have HOK := hide hok
  have HSC := hide hsc
  have HT := hide hT
  have y0 : (y == 0) = false := beq_eq_false_iff_ne.2 hy0
  have HST := hide (fun (k : Int) V => stage_any k V)
  have HWS := hide (WR.start w (w.alloc (.cells #[.slice none 0 0, .slice none 0 0, .slice none 0 0, .slice none 0 0, .bool false] 36)) (block_new w _))
  have HBS := hide (belA (Below.refl _ w) (.cells #[.slice none 0 0, .slice none 0 0, .slice none 0 0, .slice none 0 0, .bool false] 36))
  clear hsc hat hok hT
  go_enter Tryz.func12, Tryz.ntmps12
  go_wp2
  generalize w.alloc (.cells #[.slice none 0 0, .slice none 0 0, .slice none 0 0, .slice none 0 0, .bool false] 36) = W0 at HWS HBS ⊢
  go_loopw [13] (fun iv w2 => ∃ (j : Nat) (prs : List Pr) (ls ts : List (Value × Nat)) (vss vbs vls vts : Value), j ≤ os.length ∧ iv = .int .i64 j ∧ Hid (WR (fun _ => False) w.heap.size w.heap.size prs [] ls ts vss vbs vls vts w2 ∧ prs.length ≤ j ∧ ls.length ≤ j ∧ ts.length ≤ j) ∧ Hid (Below w.heap.size w w2)) (fun iv _ => os.length - (intOf iv).toNat)
  case atStart => exact ⟨0, [], [], [], _, _, _, _, by omega, rfl, hide ⟨HWS.out, by simp, by simp, by simp⟩, HBS⟩
  case round =>
    obtain ⟨j, prs, ls, ts, vss, vbs, vls, vts, hj, rfl, HWR, HB2⟩ := hrel
    clear HWS HBS
    by_cases hlt : j < os.length
    · have hltz : (j : Int) < os.length := by omega
      obtain ⟨sb, so, hsa, hsb, hS⟩ := HSC.out (by omega)
      subst hsa
      obtain ⟨e0, e1, e2, e3, e4, e5, e6, e7⟩ := hS j hlt
      have d0 := cellB HB2.out e0
      have d1 := cellB HB2.out e1
      have d2 := cellB HB2.out e2
      have d3 := cellB HB2.out e3
      have d4 := cellB HB2.out e4
      have d5 := cellB HB2.out e5
      have d6 := cellB HB2.out e6
      have d7 := cellB HB2.out e7
      have HO := hide (And.intro (HAT.out _ (List.getElem_mem hlt)) (HOK.out _ (List.getElem_mem hlt)))
      generalize os[j] = o at *
      clear hS e0 e1 e2 e3 e4 e5 e6 e7
      have HB3 := hide (belA HB2.out (.cells #[.int .i64 o.kind, .int .i64 o.ia, .int .i64 o.ic, .string o.s, .string o.b, .slice o.la o.ns.length o.lc, .slice o.ma o.ms.length o.mc, .slice o.da o.ds.length o.dc] 29))
      have H23 := hide (belA (Below.refl _ wr) (.cells #[.int .i64 o.kind, .int .i64 o.ia, .int .i64 o.ic, .string o.s, .string o.b, .slice o.la o.ns.length o.lc, .slice o.ma o.ms.length o.mc, .slice o.da o.ds.length o.dc] 29))
      obtain ⟨o0, o1, o2, o3, o4, o5, o6, o7⟩ := eight_new wr (.int .i64 o.kind) (.int .i64 o.ia) (.int .i64 o.ic) (.string o.s) (.string o.b) (.slice o.la o.ns.length o.lc) (.slice o.ma o.ms.length o.mc) (.slice o.da o.ds.length o.dc) 29 _ rfl
      have cS1 := hide (HST.out o.kind (wr.alloc (.cells #[.int .i64 o.kind, .int .i64 o.ia, .int .i64 o.ic, .string o.s, .string o.b, .slice o.la o.ns.length o.lc, .slice o.ma o.ms.length o.mc, .slice o.da o.ds.length o.dc] 29)))
      have cS2 := hide (HST.out y (wr.alloc (.cells #[.int .i64 o.kind, .int .i64 o.ia, .int .i64 o.ic, .string o.s, .string o.b, .slice o.la o.ns.length o.lc, .slice o.ma o.ms.length o.mc, .slice o.da o.ds.length o.dc] 29)))
      rw [if_pos hy5] at cS2
      by_cases hk : o.kind ≤ 5
      · rw [if_pos hk] at cS1
        go_upto_region 6 with (first
          | (go_at_call 14; first | (refine cS1.out.mono ?_; rintro e w4 ⟨rfl, rfl⟩; clear cS1) | (refine cS2.out.mono ?_; rintro e w4 ⟨rfl, rfl⟩; clear cS2)))
        refine wp_mono (reg12_6 wr.heap.size y o.kind _ o0 _ _ _ _ _ _ _ _ _ _ _ _ _ _ _ _ _ _ _ _ _ _ _ _ _ _ _ _ _ _ _ _ _ _ _ _ _ _ _ _ _ _ _ _ _ _ _ _ _ _ _ _ _ _ _ _ _ _ _ _ _ _ _ _ _ _ _ _ _ _ _ _ _ _ _ _ _ _ _ _ _) (reg_then ?_)
        rintro a8 w8 ⟨⟨v8, v29, v30, v31, v32, v33, v34, v35, v36, v37, v38, v39, v40, v41, v42, v43, v44, v45, v46, v47, v48, v49, v50, v51, v52, v53, v54, v55, rfl⟩, hw8⟩
        have hw8 := hw8.out
        subst hw8
        have HOA := hide ((HO.out.1.below (HB2.out.mono (Nat.le_refl _))).below H23.out)
        have cT := hide (step_three (HWR.out.1.below H23.out) o HOA.out HO.out.2 (tabsB (tabs2 HT.out) HT.out HB3.out) (by have := HWR.out.2; omega) (by have := HWR.out.2; omega) (by have := HWR.out.2; omega) HB3.out.size ⟨by omega, by omega⟩)
        go_wp2_with fail
        refine cT.out.mono ?_
        rintro e w9 ⟨rfl, hs9⟩
        have HS9 := hide hs9
        clear hs9 cT
        obtain ⟨prs', ls', ts', vss', vbs', vls', vts', h9, hl1, hl2, hl3, hb9⟩ := HS9.out
        have HW9 := hide (And.intro h9 (And.intro (show prs'.length ≤ j + 1 by have := HWR.out.2; omega) (And.intro (show ls'.length ≤ j + 1 by have := HWR.out.2; omega) (show ts'.length ≤ j + 1 by have := HWR.out.2; omega))))
        have HB9 := hide (HB3.out.trans hb9)
        have hwf := h9.wbk.cell.2.2.2.2
        clear h9 hb9 HS9 HWR HB3 HB2
        by_cases hm : y = -1
        · have cL := hide (looks_any HW9.out.1 (by have := HW9.out.2; omega) (by have := HW9.out.2; omega))
          subst hm
          go_wp2_with fail
          refine cL.out.mono ?_
          rintro e w10 ⟨rfl, hb10⟩
          have HWA := hide (And.intro (HW9.out.1.below hb10) HW9.out.2)
          have HBA := hide (HB9.out.trans (hb10.mono HB9.out.size))
          clear hb10 cL HW9 HB9
          go_wp2
          go_roundw
          case rel => exact ⟨j + 1, prs', ls', ts', vss', vbs', vls', vts', by omega, by go_num, HWA, HBA⟩
          case measure => simp [intOf]; omega
        · have ym : (y == -1) = false := beq_eq_false_iff_ne.2 hm
          go_wp2
          go_roundw
          case rel => exact ⟨j + 1, prs', ls', ts', vss', vbs', vls', vts', by omega, by go_num, HW9, HB9⟩
          case measure => simp [intOf]; omega
      · rw [if_neg hk] at cS1
        have HW3 : Hid (WR (fun _ => False) w.heap.size w.heap.size prs [] ls ts vss vbs vls vts (wr.alloc (.cells #[.int .i64 o.kind, .int .i64 o.ia, .int .i64 o.ic, .string o.s, .string o.b, .slice o.la o.ns.length o.lc, .slice o.ma o.ms.length o.mc, .slice o.da o.ds.length o.dc] 29)) ∧ prs.length ≤ j + 1 ∧ ls.length ≤ j + 1 ∧ ts.length ≤ j + 1) := hide ⟨HWR.out.1.below H23.out, by have := HWR.out.2; omega, by have := HWR.out.2; omega, by have := HWR.out.2; omega⟩
        go_wp2_with fail
        refine cS1.out.mono ?_
        rintro e w4 ⟨rfl, rfl⟩
        go_wp2_with fail
        refine cS2.out.mono ?_
        rintro e w5 ⟨rfl, rfl⟩
        go_wp2
        go_roundw
        case rel => exact ⟨j + 1, prs, ls, ts, vss, vbs, vls, vts, by omega, by go_num, HW3, HB3⟩
        case measure => simp [intOf]; omega
    · obtain rfl : j = os.length := by omega
      have hltz : ¬ ((os.length : Nat) : Int) < os.length := by omega
      go_wp2
      go_ret
      exact ⟨rfl, HB2.out⟩
end Go.Proofs.YticfcjmlphhpgaaGreatDoor
/-
  THE LAWS of the first three stages: what each call says.
-/
namespace Go.Proofs.YticfcjmlphhpgaaGreatDoor
open Go.RowKit Go.Maps

theorem SliceO.below {w w' : World} {v : Value} {os : List Opx} (h : SliceO w v os) (hb : Below w.heap.size w w') : SliceO w' v os := by
  obtain ⟨⟨a, cap, rfl, h1⟩, h2⟩ := h
  refine ⟨⟨a, cap, rfl, fun hn => ?_⟩, fun o ho => (h2 o ho).below hb⟩
  obtain ⟨b, off, rfl, hlt, hN⟩ := h1 hn
  refine ⟨b, off, rfl, by have := hb.size; omega, fun j hj => ?_⟩
  obtain ⟨c0, c1, c2, c3, c4, c5, c6, c7⟩ := hN j hj
  exact ⟨cellB hb c0, cellB hb c1, cellB hb c2, cellB hb c3, cellB hb c4, cellB hb c5, cellB hb c6, cellB hb c7⟩
/-- What a law's walk must say. -/
def LawSaid (f : FuncId) : Prop := ∀ (v : Value) (os : List Opx) (w : World), Lib.Utf8Tabs 0 1 w → SliceO w v os → os.length ≤ 2097152 → (∀ o ∈ os, OpSz o) →
  Calls Tryz.prog f #[v] w fun e w' => e = .returned (.bool true) ∧ Below w.heap.size w w'
set_option maxRecDepth 20000 in
set_option maxHeartbeats 4000000 in
theorem lawInserts : LawSaid 3 := by
  intro v os w hT h hl hz
  have HT := hide hT
  have CS := hide (small_any v os w h hz hl)
  have CU := hide (fun (W : World) (hb : Below w.heap.size w W) (h1 : os.length ≤ 262144) (h2 : ∀ o ∈ os, OpOk o) => UpTo_three v os 2 (by decide) (by decide) W (h.below hb) (tabsB (tabs2 hT) hT hb) h1 h2)
  clear h hT hz
  go_enter Tryz.func3, Tryz.ntmps3
  go_wp2_with fail
  refine CS.out.mono ?_
  rintro e w1 ⟨⟨bb, rfl, hbb⟩, hb1⟩
  have HB1 := hide hb1
  clear hb1 CS
  cases bb with
  | false =>
    go_wp2
    go_ret
    exact ⟨rfl, HB1.out⟩
  | true =>
    have cU := hide (CU.out w1 HB1.out (hbb rfl).1 (hbb rfl).2)
    clear hbb CU
    go_wp2_with fail
    refine cU.out.mono ?_
    rintro e w2 ⟨rfl, hb2⟩
    have HB2 := hide (HB1.out.trans (hb2.mono HB1.out.size))
    clear hb2 cU
    go_wp2
    go_ret
    exact ⟨rfl, HB2.out⟩
set_option maxRecDepth 20000 in
set_option maxHeartbeats 4000000 in
theorem lawGets : LawSaid 4 := by
  intro v os w hT h hl hz
  have HT := hide hT
  have CS := hide (small_any v os w h hz hl)
  have CU := hide (fun (W : World) (hb : Below w.heap.size w W) (h1 : os.length ≤ 262144) (h2 : ∀ o ∈ os, OpOk o) => UpTo_three v os 3 (by decide) (by decide) W (h.below hb) (tabsB (tabs2 hT) hT hb) h1 h2)
  clear h hT hz
  go_enter Tryz.func4, Tryz.ntmps4
  go_wp2_with fail
  refine CS.out.mono ?_
  rintro e w1 ⟨⟨bb, rfl, hbb⟩, hb1⟩
  have HB1 := hide hb1
  clear hb1 CS
  cases bb with
  | false =>
    go_wp2
    go_ret
    exact ⟨rfl, HB1.out⟩
  | true =>
    have cU := hide (CU.out w1 HB1.out (hbb rfl).1 (hbb rfl).2)
    clear hbb CU
    go_wp2_with fail
    refine cU.out.mono ?_
    rintro e w2 ⟨rfl, hb2⟩
    have HB2 := hide (HB1.out.trans (hb2.mono HB1.out.size))
    clear hb2 cU
    go_wp2
    go_ret
    exact ⟨rfl, HB2.out⟩
set_option maxRecDepth 20000 in
set_option maxHeartbeats 4000000 in
theorem lawPaths : LawSaid 5 := by
  intro v os w hT h hl hz
  have HT := hide hT
  have CS := hide (small_any v os w h hz hl)
  have CU := hide (fun (W : World) (hb : Below w.heap.size w W) (h1 : os.length ≤ 262144) (h2 : ∀ o ∈ os, OpOk o) => UpTo_three v os 4 (by decide) (by decide) W (h.below hb) (tabsB (tabs2 hT) hT hb) h1 h2)
  clear h hT hz
  go_enter Tryz.func5, Tryz.ntmps5
  go_wp2_with fail
  refine CS.out.mono ?_
  rintro e w1 ⟨⟨bb, rfl, hbb⟩, hb1⟩
  have HB1 := hide hb1
  clear hb1 CS
  cases bb with
  | false =>
    go_wp2
    go_ret
    exact ⟨rfl, HB1.out⟩
  | true =>
    have cU := hide (CU.out w1 HB1.out (hbb rfl).1 (hbb rfl).2)
    clear hbb CU
    go_wp2_with fail
    refine cU.out.mono ?_
    rintro e w2 ⟨rfl, hb2⟩
    have HB2 := hide (HB1.out.trans (hb2.mono HB1.out.size))
    clear hb2 cU
    go_wp2
    go_ret
    exact ⟨rfl, HB2.out⟩
set_option maxRecDepth 20000 in
set_option maxHeartbeats 4000000 in
theorem lawClosures : LawSaid 6 := by
  intro v os w hT h hl hz
  have HT := hide hT
  have CS := hide (small_any v os w h hz hl)
  have CU := hide (fun (W : World) (hb : Below w.heap.size w W) (h1 : os.length ≤ 262144) (h2 : ∀ o ∈ os, OpOk o) => UpTo_three v os 5 (by decide) (by decide) W (h.below hb) (tabsB (tabs2 hT) hT hb) h1 h2)
  clear h hT hz
  go_enter Tryz.func6, Tryz.ntmps6
  go_wp2_with fail
  refine CS.out.mono ?_
  rintro e w1 ⟨⟨bb, rfl, hbb⟩, hb1⟩
  have HB1 := hide hb1
  clear hb1 CS
  cases bb with
  | false =>
    go_wp2
    go_ret
    exact ⟨rfl, HB1.out⟩
  | true =>
    have cU := hide (CU.out w1 HB1.out (hbb rfl).1 (hbb rfl).2)
    clear hbb CU
    go_wp2_with fail
    refine cU.out.mono ?_
    rintro e w2 ⟨rfl, hb2⟩
    have HB2 := hide (HB1.out.trans (hb2.mono HB1.out.size))
    clear hb2 cU
    go_wp2
    go_ret
    exact ⟨rfl, HB2.out⟩
set_option maxRecDepth 20000 in
set_option maxHeartbeats 4000000 in
theorem lawOwned : LawSaid 9 := by
  intro v os w hT h hl hz
  have HT := hide hT
  have CS := hide (small_any v os w h hz hl)
  have CU := hide (fun (W : World) (hb : Below w.heap.size w W) (h1 : os.length ≤ 262144) (h2 : ∀ o ∈ os, OpOk o) => UpTo_three v os (-1) (by decide) (by decide) W (h.below hb) (tabsB (tabs2 hT) hT hb) h1 h2)
  clear h hT hz
  go_enter Tryz.func9, Tryz.ntmps9
  go_wp2_with fail
  refine CS.out.mono ?_
  rintro e w1 ⟨⟨bb, rfl, hbb⟩, hb1⟩
  have HB1 := hide hb1
  clear hb1 CS
  cases bb with
  | false =>
    go_wp2
    go_ret
    exact ⟨rfl, HB1.out⟩
  | true =>
    have cU := hide (CU.out w1 HB1.out (hbb rfl).1 (hbb rfl).2)
    clear hbb CU
    go_wp2_with fail
    refine cU.out.mono ?_
    rintro e w2 ⟨rfl, hb2⟩
    have HB2 := hide (HB1.out.trans (hb2.mono HB1.out.size))
    clear hb2 cU
    go_wp2
    go_ret
    exact ⟨rfl, HB2.out⟩
end Go.Proofs.YticfcjmlphhpgaaGreatDoor
