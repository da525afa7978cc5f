/-
  WALKS, 16: the document's Pack; the law.
-/
import Derived.Test.YticfcjmlphhpgaaDoorW14
import Derived.Test.YticfcjmlphhpgaaDoorW15
import Derived.Test.YticfcjmlphhpgaaDoorW12
namespace Go.Proofs.YticfcjmlphhpgaaDoor
open Go.RowKit

theorem ref_of (f : Nat) (IH : ∀ g, g < f → PRef g) : PRef f := by
  intro b off cap x F w hbl hN hcap hmax hsm hf hbk hkd
  obtain ⟨path, kind, data⟩ := x
  have hk := hkd _ (List.mem_cons_self)
  simp only at hk
  rcases hk with rfl | rfl | rfl | rfl
  · exact ref_file f b off cap path data F w hbl hN hsm
  · exact ref_exec f b off cap path data F w hbl hN hsm
  · exact ref_link f b off cap path data F w hbl hN hsm
  · exact ref_dir f IH b off cap path data F w hbl hN hcap hmax hsm (fun n hn => hkd n (List.mem_cons_of_mem _ hn)) hf hbk
theorem ref_any : ∀ f g, g ≤ f → PRef g
  | 0, g, h => ref_of g (fun x hx => by omega)
  | f + 1, g, h => ref_of g (fun x hx => ref_any f x (by omega))

set_option maxRecDepth 20000 in
set_option maxHeartbeats 400000 in
theorem refPack_any (b off cap : Nat) (x : Nd) (F : List Nd) (w : World) (hbl : b < w.heap.size) (hN : NodesAt w b off (x :: F)) (hcap : (x :: F).length ≤ cap) (hmax : cap ≤ maxLen) (hsm : Small (x :: F)) (hbk : bulk (x :: F) ≤ 1000000000) (hkd : Kinds (x :: F)) :
    Calls Tryd.prog 10 #[.slice (some ⟨b, off, none⟩) (F.length + 1) cap] w fun e w' => e = .returned (.string (strB (refBytes (x :: F)))) ∧ Below w.heap.size w w' := by
  obtain ⟨P, hP⟩ : ∃ P, strB (refN (refE F.length) x F) = P := ⟨_, rfl⟩
  have hPd : P.data.toList = refN (refE F.length) x F := by rw [← hP, strB_data]
  have hPs : P.size ≤ 1000000000 := by rw [size_of_dataV hPd]; have := refN_bulk (refE F.length) x F (refE_bulk _ F); omega
  have hA : (encB ⟨#[110, 97, 114, 45, 49]⟩).data.toList = bytesOf [wNar] := by decide
  have hAs : (encB ⟨#[110, 97, 114, 45, 49]⟩).size = 16 := by decide
  obtain ⟨A, hAA⟩ : ∃ A, encB ⟨#[110, 97, 114, 45, 49]⟩ = A := ⟨_, rfl⟩
  have hX : strB (refBytes (x :: F)) = A ++ P := WideShapes.bytes_inj (by rw [strB_data, data_appendV, ← hAA, hA, hPd]; rfl)
  rw [hX]
  have cA := hide (Str_any ⟨#[110, 97, 114, 45, 49]⟩ w (by decide))
  rw [hAA] at cA hAs
  have hsum : A.size + P.size ≤ 9223372036854775807 := by omega
  have cP : ∀ W, Below w.heap.size w W → Calls Tryd.prog 22 #[.slice (some ⟨b, off, none⟩) (F.length + 1) cap] W fun e w' => e = .returned (.string P) ∧ Below W.heap.size W w' := fun W hW => by
    rw [← hP]
    exact ref_any F.length F.length (Nat.le_refl _) b off cap x F W (by have := hW.size; omega) (hN.below hW hbl) hcap hmax hsm (Nat.le_refl _) hbk hkd
  have CP := hide cP
  clear hX hA hAs hAA hPd hP cP hN hkd hsm
  go_enter Tryd.func10, Tryd.ntmps10
  go_wp2_with fail
  refine cA.out.mono ?_
  rintro e w1 ⟨rfl, hb1⟩
  clear cA
  go_wp2_with fail
  refine (CP.out w1 hb1).mono ?_
  rintro e w2 ⟨rfl, hb2⟩
  go_wp2
  go_ret
  exact ⟨rfl, hb1.trans (hb2.mono hb1.size)⟩

theorem len30 (ns : List Nd) (h : refWrong ns = none) : ns.length ≤ 30 ∧ ns ≠ [] ∧ Kinds ns := by
  rw [← firstW_eq] at h
  cases ns with
  | nil => cases h
  | cons x F =>
    unfold firstW at h
    rw [if_neg (by simp)] at h
    obtain ⟨h1, h2⟩ := fwGo_kinds _ _ _ h
    have := h2 (by simp)
    exact ⟨by omega, by simp, h1⟩

set_option maxRecDepth 20000 in
set_option maxHeartbeats 2000000 in
/-- THE LAW, at lists that are not empty. -/
theorem Packs_some (b off cap : Nat) (ns : List Nd) (w : World) (hT : Lib.Utf8Tabs 0 1 w) (hbl : b < w.heap.size) (hN : NodesAt w b off ns) (hcap : ns.length ≤ cap) (hmax : cap ≤ maxLen) (hpos : 0 < ns.length) (hln : ns.length ≤ 140737488355328) (hsz : ∀ y ∈ ns, y.path.size ≤ 140737488355328 ∧ y.data.size ≤ 140737488355328) :
    Calls Tryd.prog 3 #[.slice (some ⟨b, off, none⟩) ns.length cap] w fun e w' => e = .returned (.bool true) ∧ Below w.heap.size w w' := by
  obtain ⟨i0, hi, hz0, hz1, hz2⟩ := info_parts Tryd.info45
  have hv : SliceN w (.slice (some ⟨b, off, none⟩) ns.length cap) ns := ⟨_, _, rfl, hcap, hmax, (fun h => by cases h), fun _ => ⟨b, off, rfl, hbl, hN⟩⟩
  have HV := hide hv
  have HN := hide hN
  have HT := hide hT
  have HC := hide (NodesAt.cells hN)
  clear hv hT
  go_enter Tryd.func3, Tryd.ntmps3
  go_wp2_with fail
  refine (weight_any _ ns w HV.out hln hsz).mono ?_
  rintro e w1 ⟨n, rfl, hsmall, hb1⟩
  have hs1 := hb1.size
  clear hN
  by_cases hbig : (262144 : Int) < n
  · go_wp2
    go_ret
    exact ⟨rfl, hb1⟩
  · obtain ⟨hl2, hsz2⟩ := hsmall (by omega)
    have hsm : Small ns := ⟨by omega, fun y hy => by have := hsz2 y hy; omega⟩
    have HSM := hide hsm
    clear hsmall hsz2 hsm hsz
    have HC1 : Hid (∀ j u, (flat3 ns)[j]? = some u → w1.cell? ((⟨b, off, none⟩ : Addr).add j) = some u) := fun j u h => by
      have := HC.out j u h
      have hb : ((⟨b, off, none⟩ : Addr).add j).block < w.heap.size := by
        have : ((⟨b, off, none⟩ : Addr).add j).block = b := by unfold Addr.add; split <;> simp_all
        rw [this]; exact hbl
      rw [hb1.cell hb]; exact this
    go_wp2_with (at_builtin; refine wpList_append_own _ rfl (.const (.slice none 0 0)) (.tmp 11) 22 rfl w1.heap.size 45 i0 (.agg #[.string ⟨#[]⟩, .int .i64 0, .string ⟨#[]⟩]) 3 40 Tryd.underlying22 hi hz0 hz1 hz2 rfl (by decide) (.slice none 0 0) 0 [] rfl (World.ownsRow_nil _ _ _ _) ⟨b, off, none⟩ ns.length cap (flat3 ns) rfl (flat3_length ns) HC1.out (flat3_one ns) (by unfold maxLen; omega) (by omega) (Nat.le_refl _) ?_; intro v' w3 hown3 hgrow3 hnil3)
    have hb3 : Below w.heap.size w w3 := hb1.grown hgrow3 hs1 (fun k hk => by simp [Value.ownBlock] at hk)
    rw [Nat.zero_add, List.nil_append] at hown3
    obtain ⟨hS3, hex⟩ := own_nodes hown3
    obtain ⟨g, cap3, rfl, hgl, hN3⟩ := hex hpos
    have hs3 := hb3.size
    have hc3 : ns.length ≤ cap3 ∧ cap3 ≤ maxLen := by
      obtain ⟨a, c, e, h1, h2, _⟩ := hS3
      cases e
      exact ⟨h1, h2⟩
    have HS3 := hide hS3
    have HN3 := hide hN3
    have cK := hide (narPack_any _ ns w3 (Utf8Tabs_below HT.out hb3) (HV.out.below hb3) HSM.out)
    clear hown3 hgrow3 hnil3 hS3 hN3 HC HC1 hb1
    cases hr : refWrong ns with
    | some k =>
      have hpk : packRes ns = #[.string ⟨#[]⟩, .int .i64 1, .int .i64 (k : Int)] := by unfold packRes; rw [firstW_eq, hr]
      rw [hpk] at cK
      refine cK.out.mono ?_
      rintro e w4 ⟨rfl, hb4⟩
      have hs4 := hb4.size
      clear cK hpk
      go_wp2_with fail
      refine (sameTree_any b off cap g 0 cap3 ns w4 (by omega) (by omega) (HN.out.below (hb3.trans (hb4.mono hs3)) hbl) (HN3.out.below hb4 hgl) (by omega) hpos).mono ?_
      rintro e w5 ⟨rfl, hb5⟩
      have hs5 := hb5.size
      have cW := hide (Wrong_any _ ns w5 ((HS3.out.below hb4).below hb5) HSM.out)
      rw [hr] at cW
      simp only [wInt] at cW
      go_wp2_with fail
      refine cW.out.mono ?_
      rintro e w6 ⟨rfl, hb6⟩
      clear cW hr
      have hkz : (0 : Int) ≤ k := by omega
      go_wp2
      go_ret
      exact ⟨rfl, hb3.trans ((hb4.mono hs3).trans ((hb5.mono (by omega)).trans (hb6.mono (by omega))))⟩
    | none =>
      have hpk : packRes ns = #[.string ⟨(packBytes ns).toArray⟩, .int .i64 0, .int .i64 0] := by unfold packRes; rw [firstW_eq, hr]
      obtain ⟨h30, hne, hkd⟩ := len30 ns hr
      have hpb : (⟨(packBytes ns).toArray⟩ : ByteArray) = strB (refBytes ns) := by rw [packBytes_eq ns hr]; rfl
      have hbk : bulk ns ≤ 1000000000 := by have := bulk_le ns HSM.out.2; omega
      rw [hpk, hpb] at cK
      refine cK.out.mono ?_
      rintro e w4 ⟨rfl, hb4⟩
      have hs4 := hb4.size
      clear cK hpk hpb
      go_wp2_with fail
      refine (sameTree_any b off cap g 0 cap3 ns w4 (by omega) (by omega) (HN.out.below (hb3.trans (hb4.mono hs3)) hbl) (HN3.out.below hb4 hgl) (by omega) hpos).mono ?_
      rintro e w5 ⟨rfl, hb5⟩
      have hs5 := hb5.size
      have cW := hide (Wrong_any _ ns w5 ((HS3.out.below hb4).below hb5) HSM.out)
      rw [hr] at cW
      simp only [wInt] at cW
      go_wp2_with fail
      refine cW.out.mono ?_
      rintro e w6 ⟨rfl, hb6⟩
      have hs6 := hb6.size
      clear cW hr
      have hN6 : NodesAt w6 g 0 ns := ((HN3.out.below hb4 hgl).below hb5 (by omega)).below hb6 (by omega)
      have cR : Calls Tryd.prog 10 #[.slice (some ⟨g, 0, none⟩) ns.length cap3] w6 fun e w' => e = .returned (.string (strB (refBytes ns))) ∧ Below w6.heap.size w6 w' := by
        cases ns with
        | nil => exact absurd rfl hne
        | cons x F => exact refPack_any g 0 cap3 x F w6 (by omega) hN6 hc3.1 hc3.2 HSM.out hbk hkd
      have CR := hide cR
      clear cR hN6 hkd
      generalize strB (refBytes ns) = X at CR ⊢
      go_wp2_with fail
      refine CR.out.mono ?_
      rintro e w7 ⟨rfl, hb7⟩
      go_wp2
      go_ret
      exact ⟨by simp, hb3.trans ((hb4.mono hs3).trans ((hb5.mono (by omega)).trans ((hb6.mono (by omega)).trans (hb7.mono (by omega)))))⟩

set_option maxRecDepth 20000 in
set_option maxHeartbeats 2000000 in
/-- THE LAW, at no nodes. -/
theorem Packs_none (a : Option Addr) (cap : Nat) (w : World) (hT : Lib.Utf8Tabs 0 1 w) (hv : SliceN w (.slice a 0 cap) []) :
    Calls Tryd.prog 3 #[.slice a 0 cap] w fun e w' => e = .returned (.bool true) ∧ Below w.heap.size w w' := by
  obtain ⟨i0, hi, hz0, hz1, hz2⟩ := info_parts Tryd.info45
  have HV := hide hv
  have HT := hide hT
  have hpk : packRes [] = #[.string ⟨#[]⟩, .int .i64 1, .int .i64 0] := rfl
  have hw0 : wInt (refWrong []) = 0 := rfl
  clear hv hT
  go_enter Tryd.func3, Tryd.ntmps3
  go_wp2_with fail
  refine (weight_any _ [] w HV.out (by simp) (fun y hy => by cases hy)).mono ?_
  rintro e w1 ⟨n, rfl, _, hb1⟩
  have hs1 := hb1.size
  by_cases hbig : (262144 : Int) < n
  · go_wp2
    go_ret
    exact ⟨rfl, hb1⟩
  · cases a with
    | none =>
      have hc0 : cap = 0 := by obtain ⟨a, c, e, _, _, h3, _⟩ := HV.out; cases e; exact h3 rfl
      subst hc0
      go_wp2_with (at_builtin; refine wpList_append_own_none rfl (.const (.slice none 0 0)) (.tmp 11) 22 rfl w1.heap.size 45 i0 3 Tryd.underlying22 hi (.slice none 0 0) 0 [] rfl (World.ownsRow_nil _ _ _ _) rfl ?_)
      have hb3 : Below w.heap.size w w1 := hb1
      have HS3 := hide (show SliceN w1 (.slice none 0 0) [] from ⟨none, 0, rfl, by simp, by simp [maxLen], fun _ => rfl, fun h => by simp at h⟩)
      have hs3 := hb3.size
      have cK := hide (narPack_any _ [] w1 (Utf8Tabs_below HT.out hb3) (HV.out.below hb3) ⟨by simp, fun y hy => by cases hy⟩)
      rw [hpk] at cK
      refine cK.out.mono ?_
      rintro e w4 ⟨rfl, hb4⟩
      have hs4 := hb4.size
      clear cK
      go_wp2_with fail
      refine (sameTree_nil _ _ _ _ w4).mono ?_
      rintro e w5 ⟨rfl, hb5⟩
      have hs5 := hb5.size
      have cW := hide (Wrong_any _ [] w5 ((HS3.out.below hb4).below hb5) ⟨by simp, fun y hy => by cases hy⟩)
      rw [hw0] at cW
      go_wp2_with fail
      refine cW.out.mono ?_
      rintro e w6 ⟨rfl, hb6⟩
      clear cW
      go_wp2
      go_ret
      exact ⟨rfl, hb3.trans ((hb4.mono hs3).trans ((hb5.mono (by omega)).trans (hb6.mono (by omega))))⟩
    | some ad =>
      go_wp2_with (at_builtin; refine wpList_append_own _ rfl (.const (.slice none 0 0)) (.tmp 11) 22 rfl w1.heap.size 45 i0 (.agg #[.string ⟨#[]⟩, .int .i64 0, .string ⟨#[]⟩]) 3 40 Tryd.underlying22 hi hz0 hz1 hz2 rfl (by decide) (.slice none 0 0) 0 [] rfl (World.ownsRow_nil _ _ _ _) ad 0 cap [] rfl rfl (fun j u h => by simp at h) (fun u h => by cases h) (by unfold maxLen; omega) (by omega) (Nat.le_refl _) ?_; intro v' w3 hown3 hgrow3 hnil3)
      obtain rfl : v' = .slice none 0 0 := by simpa using hnil3
      have hb3 : Below w.heap.size w w3 := hb1.grown hgrow3 hs1 (fun k hk => by simp [Value.ownBlock] at hk)
      clear hown3 hgrow3 hnil3
      have HS3 := hide (show SliceN w3 (.slice none 0 0) [] from ⟨none, 0, rfl, by simp, by simp [maxLen], fun _ => rfl, fun h => by simp at h⟩)
      have hs3 := hb3.size
      have cK := hide (narPack_any _ [] w3 (Utf8Tabs_below HT.out hb3) (HV.out.below hb3) ⟨by simp, fun y hy => by cases hy⟩)
      rw [hpk] at cK
      refine cK.out.mono ?_
      rintro e w4 ⟨rfl, hb4⟩
      have hs4 := hb4.size
      clear cK
      go_wp2_with fail
      refine (sameTree_nil _ _ _ _ w4).mono ?_
      rintro e w5 ⟨rfl, hb5⟩
      have hs5 := hb5.size
      have cW := hide (Wrong_any _ [] w5 ((HS3.out.below hb4).below hb5) ⟨by simp, fun y hy => by cases hy⟩)
      rw [hw0] at cW
      go_wp2_with fail
      refine cW.out.mono ?_
      rintro e w6 ⟨rfl, hb6⟩
      clear cW
      go_wp2
      go_ret
      exact ⟨rfl, hb3.trans ((hb4.mono hs3).trans ((hb5.mono (by omega)).trans (hb6.mono (by omega))))⟩

theorem Packs_any (v : Value) (ns : List Nd) (w : World) (hT : Lib.Utf8Tabs 0 1 w) (hv : SliceN w v ns) (hln : ns.length ≤ 140737488355328) (hsz : ∀ y ∈ ns, y.path.size ≤ 140737488355328 ∧ y.data.size ≤ 140737488355328) :
    Calls Tryd.prog 3 #[v] w fun e w' => e = .returned (.bool true) ∧ Below w.heap.size w w' := by
  have hv' := hv
  obtain ⟨a, cap, rfl, h1, h2, h3, h4⟩ := hv
  cases ns with
  | nil => exact Packs_none a cap w hT hv'
  | cons x F =>
    obtain ⟨b, off, rfl, hbl, hN⟩ := h4 (by simp)
    exact Packs_some b off cap (x :: F) w hT hbl hN h1 h2 (by simp) hln hsz
end Go.Proofs.YticfcjmlphhpgaaDoor
