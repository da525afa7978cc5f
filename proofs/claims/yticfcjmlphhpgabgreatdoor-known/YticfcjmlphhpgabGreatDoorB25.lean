import Derived.Test.YticfcjmlphhpgabGreatDoorB13
import Derived.Test.YticfcjmlphhpgabGreatDoorB15
import Derived.Test.YticfcjmlphhpgabGreatDoorB24
namespace Go.Proofs.YticfcjmlphhpgabGreatDoor
open Go.RowKit Go.Maps

def refsBs (refs : List ByteArray) : Bs := refs.flatMap fun r => bytesOf [wRef, r]
def entBs (p t : ByteArray) (refs : List ByteArray) : Bs := bytesOf [wPath, p] ++ t.data.toList ++ bytesOf [wRefs] ++ refsBs refs ++ bytesOf [wSum, sumO t]
theorem refsBs_take (refs : List ByteArray) (k : Nat) (h : k < refs.length) : refsBs (refs.take (k + 1)) = refsBs (refs.take k) ++ bytesOf [wRef, refs[k]] := by
  unfold refsBs
  rw [List.take_succ_eq_append_getElem h, List.flatMap_append]
  simp
theorem refsBs_take_le (refs : List ByteArray) (k : Nat) : (refsBs (refs.take k)).length ≤ (refsBs refs).length := by
  conv => rhs; rw [← List.take_append_drop k refs]
  unfold refsBs
  rw [List.flatMap_append, List.length_append]
  omega
theorem entBs_length (p t : ByteArray) (refs : List ByteArray) : (entBs p t refs).length = (bytesOf [wPath, p]).length + t.size + (bytesOf [wRefs]).length + (refsBs refs).length + (bytesOf [wSum, sumO t]).length := by
  unfold entBs
  simp only [List.length_append]
  have : t.data.toList.length = t.size := by simp
  omega
theorem str_cells (t : ByteArray) : Lib.strCells t = cellsOf t.data.toList := rfl

theorem K5.new {base : Nat} {w w' : World} (h : Below w.heap.size w w') (hb : base ≤ w.heap.size) : K5 base w w' :=
  ⟨h.mono hb, fun b o ho _ _ => (h.block b (by have := (Array.getElem?_eq_some_iff.1 ho).1; exact this)).trans ho⟩
set_option maxRecDepth 20000 in
set_option maxHeartbeats 1000000 in
theorem appendEntry_any (base : Nat) (v : Value) (n : Nat) (xs : List Value) (p t : ByteArray) (a : Option Addr) (rn c : Nat) (refs : List ByteArray) (w : World) (hown : w.ownsRow base 5 1 v n xs) (hbase : base ≤ w.heap.size)
    (hr : ∀ W, Below base w W → SliceS W (.slice a rn c) refs) (hn : n + (entBs p t refs).length ≤ 1000000000000) :
    Calls Tryz.prog 36 #[v, .string p, .agg #[.string t, .slice a rn c]] w fun e w' => ∃ v', e = .returned v' ∧ w'.ownsRow base 5 1 v' (n + (entBs p t refs).length) (xs ++ cellsOf (entBs p t refs)) ∧ K5 base w w' := by
  obtain ⟨i0, hi, hz0, hz1, hz2⟩ := info_parts Tryz.info5
  have HE : Hid (∀ (V : World) (W : Value), V.ownsRow base 5 1 W (n + (bytesOf [wPath, p]).length + t.size + (bytesOf [wRefs]).length + (refsBs refs).length + (bytesOf [wSum, sumO t]).length) (xs ++ cellsOf (bytesOf [wPath, p]) ++ Lib.strCells t ++ cellsOf (bytesOf [wRefs]) ++ cellsOf (refsBs refs) ++ cellsOf (bytesOf [wSum, sumO t])) → V.ownsRow base 5 1 W (n + (entBs p t refs).length) (xs ++ cellsOf (entBs p t refs))) := hide fun V W h => by
    rw [entBs_length, show n + ((bytesOf [wPath, p]).length + t.size + (bytesOf [wRefs]).length + (refsBs refs).length + (bytesOf [wSum, sumO t]).length) = n + (bytesOf [wPath, p]).length + t.size + (bytesOf [wRefs]).length + (refsBs refs).length + (bytesOf [wSum, sumO t]).length by omega]
    unfold entBs
    simp only [cellsOf_append, ← str_cells]
    simpa only [List.append_assoc] using h
  rw [entBs_length] at hn
  have hrn : rn = refs.length := by
    obtain ⟨_, _, e, _⟩ := hr w (Below.refl _ _)
    cases e; rfl
  subst hrn
  have cP : Hid (∀ W v n xs, World.ownsRow W base 5 1 v n xs → base ≤ W.heap.size → n + (bytesOf [wPath, p]).length ≤ 1000000000000 → Calls Tryz.prog 35 #[v, .slice (some ⟨W.heap.size, 0, none⟩) 2 2] (W.alloc (.cells #[.string ⟨#[112, 97, 116, 104]⟩, .string p] 9)) fun e w' => ∃ v', e = .returned v' ∧ w'.ownsRow base 5 1 v' (n + (bytesOf [wPath, p]).length) (xs ++ cellsOf (bytesOf [wPath, p])) ∧ K5 base W w') := hide fun W v n xs h1 h2 h3 => Append_new base _ _ _ [wPath, p] W h1 h2 h3 (by simp) _ rfl _ rfl
  have cR : Hid (∀ W v n xs, World.ownsRow W base 5 1 v n xs → base ≤ W.heap.size → n + (bytesOf [wRefs]).length ≤ 1000000000000 → Calls Tryz.prog 35 #[v, .slice (some ⟨W.heap.size, 0, none⟩) 1 1] (W.alloc (.cells #[.string ⟨#[114, 101, 102, 115]⟩] 9)) fun e w' => ∃ v', e = .returned v' ∧ w'.ownsRow base 5 1 v' (n + (bytesOf [wRefs]).length) (xs ++ cellsOf (bytesOf [wRefs])) ∧ K5 base W w') := hide fun W v n xs h1 h2 h3 => Append_new base _ _ _ [wRefs] W h1 h2 h3 (by simp) _ rfl _ rfl
  have cS : Hid (∀ W v n xs, World.ownsRow W base 5 1 v n xs → base ≤ W.heap.size → n + (bytesOf [wSum, sumO t]).length ≤ 1000000000000 → Calls Tryz.prog 35 #[v, .slice (some ⟨W.heap.size, 0, none⟩) 2 2] (W.alloc (.cells #[.string ⟨#[115, 117, 109]⟩, .string (sumO t)] 9)) fun e w' => ∃ v', e = .returned v' ∧ w'.ownsRow base 5 1 v' (n + (bytesOf [wSum, sumO t]).length) (xs ++ cellsOf (bytesOf [wSum, sumO t])) ∧ K5 base W w') := hide fun W v n xs h1 h2 h3 => Append_new base _ _ _ [wSum, sumO t] W h1 h2 h3 (by simp) _ rfl _ rfl
  have cF : Hid (∀ r W v n xs, World.ownsRow W base 5 1 v n xs → base ≤ W.heap.size → n + (bytesOf [wRef, r]).length ≤ 1000000000000 → Calls Tryz.prog 35 #[v, .slice (some ⟨W.heap.size, 0, none⟩) 2 2] (W.alloc (.cells #[.string ⟨#[114, 101, 102]⟩, .string r] 9)) fun e w' => ∃ v', e = .returned v' ∧ w'.ownsRow base 5 1 v' (n + (bytesOf [wRef, r]).length) (xs ++ cellsOf (bytesOf [wRef, r])) ∧ K5 base W w') := hide fun r W v n xs h1 h2 h3 => Append_new base _ _ _ [wRef, r] W h1 h2 h3 (by simp) _ rfl _ rfl
  have cW : Hid (∀ W, Calls Tryz.prog 29 #[.string t] W fun e w' => e = .returned (.string (sumO t)) ∧ Below W.heap.size W w') := hide fun W => Sm.wireSum_any t W (by unfold maxLen; omega)
  have HR := hide hr
  clear hr
  have hrl : refs.length ≤ (refsBs refs).length := by
    clear HE HR hn
    induction refs with
    | nil => simp
    | cons r l ih =>
      have e : refsBs (r :: l) = bytesOf [wRef, r] ++ refsBs l := by simp [refsBs]
      have e2 : 1 ≤ (bytesOf [wRef, r]).length := by simp [bytesOf, encs, enc, le_length]; omega
      rw [e, List.length_append, List.length_cons]
      omega
  generalize bytesOf [wPath, p] = B1 at *
  generalize bytesOf [wRefs] = B2 at *
  generalize bytesOf [wSum, sumO t] = B3 at *
  generalize sumO t = su at *
  have HF : Hid (∀ k (h : k < refs.length), ∃ B, bytesOf [wRef, refs[k]] = B) := hide fun k h => ⟨_, rfl⟩
  have hb0 := block_new w (.cells #[.string t, .slice a refs.length c] 74)
  have hown1 := hown.alloc (.cells #[.string t, .slice a refs.length c] 74)
  have hK1 := (K5.refl base w).alloc hbase (.cells #[.string t, .slice a refs.length c] 74)
  have hsz1 : base ≤ (w.alloc (.cells #[.string t, .slice a refs.length c] 74)).heap.size := by simp; omega
  have hz1' : (w.alloc (.cells #[.string t, .slice a refs.length c] 74)).heap.size = w.heap.size + 1 := by simp
  go_enter Tryz.func36, Tryz.ntmps36
  go_wp2_with fail
  generalize w.alloc (.cells #[.string t, .slice a refs.length c] 74) = W1 at hb0 hown1 hK1 hsz1 hz1' ⊢
  rw [← hz1']
  clear hz1'
  refine (cP.out W1 _ _ _ hown1 hsz1 (by omega)).mono ?_
  rintro e w2 ⟨v2, rfl, hown2, hk2⟩
  have hb2 := hk2.block (by decide) hb0
  have hK2 := hK1.trans hk2
  have hsz2 := hk2.size
  obtain ⟨x20, x21⟩ := two_cells hb2
  clear hown1 hk2 hb0
  go_wp2_with (at_builtin; refine Lib.wpList_append_own_string _ rfl (.tmp 13) (.tmp 15) 39 9 rfl base 5 i0 Tryz.underlying39 Tryz.underlying9 hi hz0 hz1 hz2 v2 _ _ rfl hown2 t rfl (by unfold maxLen; omega) (by omega) (by omega) ?_; intro v3 w3 hown3 hgrow3 hnil3)
  have hk3 := (K5.refl base w2).grown hown2 hgrow3 (by omega)
  have hb3 := hk3.block (by decide) hb2
  have hK3 := hK2.trans hk3
  have hsz3 := hk3.size
  clear hown2 hk3 hgrow3 hnil3 hb2 hK2 x20 x21
  refine (cR.out w3 _ _ _ hown3 (by omega) (by omega)).mono ?_
  rintro e w4 ⟨v4, rfl, hown4, hk4⟩
  have hb4 := hk4.block (by decide) hb3
  have hK4 := hide (hK3.trans hk4)
  have hsz4 := hk4.size
  obtain ⟨x40, x41⟩ := two_cells hb4
  clear hown3 hk4 hb3 hK3
  go_wp2
  go_loopw [0, 23] (fun o i w5 => ∃ k : Nat, k ≤ refs.length ∧ i = .int .i64 k ∧ w5.ownsRow base 5 1 o (n + B1.length + t.size + B2.length + (refsBs (refs.take k)).length) (xs ++ cellsOf B1 ++ Lib.strCells t ++ cellsOf B2 ++ cellsOf (refsBs (refs.take k))) ∧ Hid (K5 base w w5) ∧ Hid (K5 base w4 w5)) (fun _ i _ => refs.length - (intOf i).toNat)
  case atStart => exact ⟨0, by omega, rfl, by simpa [refsBs, cellsOf] using hown4, hK4, hide (K5.refl _ _)⟩
  case round =>
    rename_i o i
    obtain ⟨k, hk, rfl, hown5, hK5, hL5⟩ := hrel
    have hsz5 := hL5.out.size
    by_cases hlt : k < refs.length
    · obtain ⟨a', c', e1, e2, e3⟩ := HR.out wr hK5.out.bel
      cases e1
      obtain ⟨rb, ro, rfl, e4, e5⟩ := e3 (by omega)
      have g := e5 k hlt
      clear e5
      have hle := refsBs_take_le refs (k + 1)
      have het := refsBs_take refs k hlt
      have HLE : Hid ((refsBs (refs.take (k + 1))).length = (refsBs (refs.take k)).length + (bytesOf [wRef, refs[k]]).length) := hide (by rw [het, List.length_append])
      have HET := hide het
      rw [HLE.out] at hle
      clear het
      have cF' := hide (cF.out refs[k])
      generalize bytesOf [wRef, refs[k]] = B4 at *
      generalize refs[k] = r at *
      go_wp2_with fail
      refine (cF'.out wr _ _ _ hown5 (by omega) (by omega)).mono ?_
      rintro e w6 ⟨v6, rfl, hown6, hk6⟩
      have hK6 := hide (hK5.out.trans hk6)
      have hL6 := hide (hL5.out.trans hk6)
      clear hk6 hown5
      go_wp2
      go_roundw
      case rel =>
        refine ⟨k + 1, by omega, by go_num, ?_, hK6, hL6⟩
        rw [HLE.out, HET.out, cellsOf_append, ← Nat.add_assoc, ← List.append_assoc]
        exact hown6
      case measure => simp [intOf]; omega
    · obtain rfl : k = refs.length := by omega
      rw [List.take_length] at hown5
      obtain ⟨x50, x51⟩ := two_cells (hL5.out.block (by decide) hb4)
      go_wp2_with fail
      refine (cW.out wr).mono ?_
      rintro e w7 ⟨rfl, hb7⟩
      have hown7 := own_below hown5 hb7
      have hK7 : K5 base w w7 := hK5.out.trans (K5.new hb7 (by omega))
      have hsz7 := hb7.size
      clear hown5 hb7 x50 x51
      go_wp2_with fail
      refine (cS.out w7 _ _ _ hown7 (by omega) (by omega)).mono ?_
      rintro e w8 ⟨v8, rfl, hown8, hk8⟩
      have hK8 := hK7.trans hk8
      go_wp2
      go_ret
      exact ⟨_, rfl, HE.out _ _ hown8, hK8⟩
end Go.Proofs.YticfcjmlphhpgabGreatDoor
namespace Go.Proofs.YticfcjmlphhpgabGreatDoor
open Go.RowKit Go.Maps

def entOf (S : List Ent) (p : ByteArray) : Bs := match findS S p with
  | some e => entBs p (packB e.nodes) e.refs
  | none => []
def outBs (S : List Ent) (out : List ByteArray) : Bs := out.flatMap (entOf S)
def expBs (S : List Ent) (out : List ByteArray) : Bs := bytesOf [wExp] ++ outBs S out ++ bytesOf [wEnd]
def exportB (S : List Ent) (roots out : List ByteArray) : ByteArray := if lackR S roots = true then ⟨#[]⟩ else ⟨(expBs S out).toArray⟩
theorem outBs_take (S : List Ent) (out : List ByteArray) (k : Nat) (h : k < out.length) : outBs S (out.take (k + 1)) = outBs S (out.take k) ++ entOf S out[k] := by
  unfold outBs
  rw [List.take_succ_eq_append_getElem h, List.flatMap_append]
  simp
theorem outBs_len {S : List Ent} {M : Nat} (h : ∀ p, (entOf S p).length ≤ M) : ∀ out : List ByteArray, (outBs S out).length ≤ out.length * M
  | [] => by simp [outBs]
  | p :: r => by
    have e : outBs S (p :: r) = entOf S p ++ outBs S r := by simp [outBs]
    have h1 := h p
    have h2 := outBs_len h r
    rw [e, List.length_append, List.length_cons, Nat.add_mul]
    omega
/-- What must be known of what is told. -/
structure OutOk (S : List Ent) (roots : List ByteArray) : Prop where
  len : ∀ out, ClosR S roots out → out.length ≤ 10
  mem : ∀ out, ClosR S roots out → ∀ p ∈ out, ∃ e, findS S p = some e ∧ p.size ≤ 1000000000
  sz : ∀ p, (entOf S p).length ≤ 2000000000
set_option maxRecDepth 20000 in
set_option maxHeartbeats 2000000 in
theorem Export_any (b : Nat) (S : List Ent) (vr : Value) (roots : List ByteArray) (w : World) (hPS : PSt w b S) (hC : ClosedS S) (hr : SliceS w vr roots) (hl : roots.length ≤ 1000000) (hs : ∀ r ∈ roots, r.size ≤ 1000000000) (hO : OutOk S roots) :
    Calls Tryz.prog 23 #[.map (some b), vr] w fun e w' => ∃ out, ClosR S roots out ∧ e = .returned (.tuple #[.string (exportB S roots out), .int .i64 (if lackR S roots = true then 15 else 0)]) ∧ Below w.heap.size w w' := by
  have cC := hide (Closure_any b S vr roots w hPS hC hr hl hs)
  have HO := hide hO
  have HPS := hide hPS
  clear hr hs hO hPS hC
  by_cases hlk : lackR S roots = true
  · rw [if_pos hlk] at cC ⊢
    go_enter Tryz.func23, Tryz.ntmps23
    go_wp2_with fail
    refine cC.out.mono ?_
    rintro e w1 ⟨v1, out, rfl, hv1, hF1, hb1⟩
    have HF : Hid (ClosR S roots out ∧ exportB S roots out = ⟨#[]⟩) := hide ⟨hF1, by unfold exportB; rw [if_pos hlk]⟩
    clear hv1 hF1
    go_wp2
    go_ret2
    exact ⟨out, HF.out.1, (by rw [HF.out.2]; rfl), hb1⟩
  · rw [if_neg hlk] at cC ⊢
    go_enter Tryz.func23, Tryz.ntmps23
    go_wp2_with fail
    refine cC.out.mono ?_
    rintro e w1 ⟨v1, out, rfl, hv1, hF1, hb1⟩
    have hol := HO.out.len _ hF1
    have HM := hide (HO.out.mem _ hF1)
    have HZ := hide HO.out.sz
    have hez := outBs_len HO.out.sz out
    have HF : Hid (ClosR S roots out ∧ exportB S roots out = ⟨(expBs S out).toArray⟩) := hide ⟨hF1, by unfold exportB; rw [if_neg hlk]⟩
    have HB1 := hide hb1
    obtain ⟨va, vc, rfl, hvs⟩ := own_sl hv1
    have HV := hide (own_strs hv1)
    have cA : Hid (∀ W v n xs, World.ownsRow W w1.heap.size 5 1 v n xs → w1.heap.size ≤ W.heap.size → n + (bytesOf [wExp]).length ≤ 1000000000000 → Calls Tryz.prog 35 #[v, .slice (some ⟨W.heap.size, 0, none⟩) 1 1] (W.alloc (.cells #[.string ⟨#[101, 120, 112, 111, 114, 116, 45, 49]⟩] 9)) fun e w' => ∃ v', e = .returned v' ∧ w'.ownsRow w1.heap.size 5 1 v' (n + (bytesOf [wExp]).length) (xs ++ cellsOf (bytesOf [wExp])) ∧ K5 w1.heap.size W w') := hide fun W v n xs h1 h2 h3 => Append_new _ _ _ _ [wExp] W h1 h2 h3 (by simp) _ rfl _ rfl
    have cZ : Hid (∀ W v n xs, World.ownsRow W w1.heap.size 5 1 v n xs → w1.heap.size ≤ W.heap.size → n + (bytesOf [wEnd]).length ≤ 1000000000000 → Calls Tryz.prog 35 #[v, .slice (some ⟨W.heap.size, 0, none⟩) 1 1] (W.alloc (.cells #[.string ⟨#[101, 110, 100]⟩] 9)) fun e w' => ∃ v', e = .returned v' ∧ w'.ownsRow w1.heap.size 5 1 v' (n + (bytesOf [wEnd]).length) (xs ++ cellsOf (bytesOf [wEnd])) ∧ K5 w1.heap.size W w') := hide fun W v n xs h1 h2 h3 => Append_new _ _ _ _ [wEnd] W h1 h2 h3 (by simp) _ rfl _ rfl
    have HX : Hid (expBs S out = bytesOf [wExp] ++ outBs S out ++ bytesOf [wEnd]) := hide rfl
    have hle1 : (bytesOf [wExp]).length = 16 := by decide
    have hle2 : (bytesOf [wEnd]).length = 16 := by decide
    generalize bytesOf [wExp] = B1 at *
    generalize bytesOf [wEnd] = B2 at *
    clear hv1 hF1 cC HO hb1 hvs
    go_wp2_with fail
    refine (cA.out w1 _ 0 [] (World.ownsRow_nil _ _ _ _) (Nat.le_refl _) (by omega)).mono ?_
    rintro e w2 ⟨v2, rfl, hown2, hk2⟩
    have HK2 := hide hk2
    clear hk2 cA
    go_wp2
    go_loopw [8, 24] (fun o i w5 => ∃ k : Nat, k ≤ out.length ∧ i = .int .i64 k ∧ w5.ownsRow w1.heap.size 5 1 o (B1.length + (outBs S (out.take k)).length) (cellsOf B1 ++ cellsOf (outBs S (out.take k))) ∧ Hid (K5 w1.heap.size w1 w5)) (fun _ i _ => out.length - (intOf i).toNat)
    case atStart => exact ⟨0, by omega, rfl, by simpa [outBs, cellsOf] using hown2, HK2⟩
    case round =>
      rename_i o i
      obtain ⟨k, hk, rfl, hown5, HK5⟩ := hrel
      have hsz5 := HK5.out.size
      by_cases hlt : k < out.length
      · obtain ⟨a', c', e1, e2, e3⟩ := HV.out.below HK5.out.bel
        cases e1
        obtain ⟨rb, ro, rfl, e4, e5⟩ := e3 (by omega)
        have g := e5 k hlt
        clear e5
        obtain ⟨en, hfe, hps⟩ := HM.out _ (List.getElem_mem hlt)
        obtain ⟨L, hM1, hEs⟩ := HPS.out.below HB1.out
        have hMp : MapAt wr b L := hM1.blk (HK5.out.bel.block b (World.ownsMap.lt hM1))
        have hfd := hEs.find out[k]
        rw [hfe] at hfd
        obtain ⟨ea, en', ec, hfk, hrs⟩ := hfd
        have hlook := look_raw Tryz.underlying60 (zero103 _) hMp hps
        rw [hfk, Option.getD_some] at hlook
        have het := outBs_take S out k hlt
        have heo : entOf S out[k] = entBs out[k] (packB en.nodes) en.refs := by unfold entOf; rw [hfe]
        have hz := HZ.out out[k]
        have hle : (outBs S (out.take k)).length ≤ 20000000000 := by
          have h1 := outBs_len HZ.out (out.take k)
          rw [List.length_take] at h1
          have : min k out.length * 2000000000 ≤ 10 * 2000000000 := Nat.mul_le_mul_right _ (by omega)
          omega
        rw [heo] at het hz
        have HET := hide het
        have HRS : Hid (∀ W, Below w1.heap.size wr W → SliceS W (.slice ea en' ec) en.refs) := hide fun W hW => hrs.below (HK5.out.bel.trans hW)
        have cE := hide (appendEntry_any w1.heap.size _ _ _ out[k] (packB en.nodes) ea en' ec en.refs wr hown5 hsz5 HRS.out (by omega))
        generalize entBs out[k] (packB en.nodes) en.refs = B5 at *
        generalize out[k] = pk at *
        generalize packB en.nodes = tb at *
        clear hMp hM1 hEs hfk hrs hown5 heo het
        go_wp2_with fail
        refine cE.out.mono ?_
        rintro e w6 ⟨v6, rfl, hown6, hk6⟩
        have HK6 := hide (HK5.out.trans hk6)
        clear hk6 cE
        go_wp2
        go_roundw
        case rel =>
          refine ⟨k + 1, by omega, by go_num, ?_, HK6⟩
          rw [HET.out, List.length_append, cellsOf_append, ← Nat.add_assoc, ← List.append_assoc]
          exact hown6
        case measure => simp [intOf]; omega
      · obtain rfl : k = out.length := by omega
        rw [List.take_length] at hown5
        go_wp2_with fail
        have hle : (outBs S out).length ≤ 20000000000 := by
          have : out.length * 2000000000 ≤ 10 * 2000000000 := Nat.mul_le_mul_right _ hol
          omega
        refine (cZ.out wr _ _ _ hown5 hsz5 (by omega)).mono ?_
        rintro e w7 ⟨v7, rfl, hown7, hk7⟩
        have HB7 := hide (HB1.out.trans ((HK5.out.trans hk7).bel.mono HB1.out.size))
        have hown8 : w7.ownsRow w1.heap.size 5 1 v7 (expBs S out).length (cellsOf (expBs S out)) := by
          rw [HX.out, List.length_append, List.length_append, cellsOf_append, cellsOf_append]
          exact hown7
        obtain ⟨a8, c8, rfl, hcv⟩ := Sm.own_string _ _ _ _ hown8 (by rw [HX.out]; simp; omega)
        have HF' := HF
        generalize expBs S out = EB at *
        clear hown7 hown8 hk7 cZ
        go_wp2
        go_ret2
        exact ⟨out, HF.out.1, (by rw [HF.out.2]; rfl), HB7.out⟩
set_option maxRecDepth 20000 in
set_option maxHeartbeats 2000000 in
theorem narExport_any (q b : Nat) (S : List Ent) (vr : Value) (roots : List ByteArray) (w : World) (h : NSt w q b S) (hC : ClosedS S) (hr : SliceS w vr roots) (hl : roots.length ≤ 1000000) (hs : ∀ r ∈ roots, r.size ≤ 1000000000) (hO : OutOk S roots) :
    Calls Tryz.prog 9 #[.pointer (some ⟨q, 0, none⟩), vr] w fun e w' => ∃ out, ClosR S roots out ∧ e = .returned (.tuple #[.string (exportB S roots out), .int .i64 (if lackR S roots = true then 15 else 0)]) ∧ Below w.heap.size w w' := by
  have cE := hide (entries_any q b w h.1)
  have cC := hide (Export_any b S vr roots w h.2 hC hr hl hs hO)
  obtain ⟨ra, rc, rfl, _⟩ := hr
  generalize (if lackR S roots = true then (15 : Int) else 0) = z at cC ⊢
  clear h hC hs hO
  go_enter Tryz.func9, Tryz.ntmps9
  go_wp2_with fail
  refine cE.out.mono ?_
  rintro e w1 ⟨rfl, rfl⟩
  go_wp2_with fail
  refine cC.out.mono ?_
  rintro e w2 ⟨out, hF, rfl, hb⟩
  have HR := hide (And.intro hF hb)
  clear hF hb cC
  go_wp2
  go_ret2
  exact ⟨out, HR.out.1, rfl, HR.out.2⟩
end Go.Proofs.YticfcjmlphhpgabGreatDoor
