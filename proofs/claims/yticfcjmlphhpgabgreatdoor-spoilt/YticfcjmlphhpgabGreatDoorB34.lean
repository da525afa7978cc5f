import Derived.Test.YticfcjmlphhpgabGreatDoorB33
import Derived.Laws.IdiomStrings
import Derived.Laws.BitsAllLaws
import Derived.Laws.BitsLemmas
import Derived.Deep.CutBlock
import Derived.Deep.RegionHeld3
import Derived.Deep.RegionWith
/-
  Bytes out of a string, one of them changed.
-/
namespace Go.Proofs.YticfcjmlphhpgabGreatDoor
open Go.RowKit Go.Maps

theorem by_conv (w : World) (E : ByteArray) : ∃ W cap, (convert 9 39 (.string E)).run Tryz.prog w = .ok (.slice (some ⟨w.heap.size, 0, none⟩) E.size cap) W ∧ BytesAt W w.heap.size 0 E.data.toList ∧ (∀ j, j < E.size → W.frozen? ⟨w.heap.size, j, none⟩ = false) ∧ Below w.heap.size w W := by
  have h := run_bytes_of_string (P := Tryz.prog) w 9 39 5 E Tryz.underlying9 Tryz.underlying39 Tryz.underlying5
  refine ⟨_, _, h, fun j hj => ?_, fun j hj => ?_, ?_⟩
  · have hj' : j < E.data.size := by simpa using hj
    have h1 := World.cell?_alloc_mark w.drew (bytesRow E (grownCap w E.size 0 5)) 5 ((bytesRow E (grownCap w E.size 0 5)).size, (bytesRow E (grownCap w E.size 0 5)).size + 1) j
    rw [bytesRow_at E _ j hj'] at h1
    rw [Nat.zero_add]
    exact h1
  · have h1 := World.frozen?_alloc_mark w.drew (bytesRow E (grownCap w E.size 0 5)) 5 (bytesRow E (grownCap w E.size 0 5)).size ((bytesRow E (grownCap w E.size 0 5)).size + 1) j
    refine Eq.trans h1 ?_
    have : E.size ≤ (bytesRow E (grownCap w E.size 0 5)).size := by
      unfold bytesRow
      rw [Array.size_append, Array.size_map]
      show E.data.size ≤ _
      omega
    rw [decide_eq_false (by omega), Bool.false_and]
  · exact (Below.refl _ w).drew.alloc (Nat.le_refl _) _
theorem by_set {w : World} {g : Nat} {l : Bs} (h : BytesAt w g 0 l) {k : Nat} (hk : k < l.length) {y : Nat} (hy : y < 256) : BytesAt (w.setCell ⟨g, k, none⟩ (.int .u8 (y : Int))) g 0 (l.set k (UInt8.ofNat y)) := by
  intro j hj
  rw [List.length_set] at hj
  rw [Nat.zero_add]
  by_cases e : k = j
  · subst e
    have h1 := h k hk
    rw [Nat.zero_add] at h1
    rw [World.cell?_setCell_same _ _ _ h1, List.getElem_set_self, UInt8.toNat_ofNat']
    have : y % 2 ^ 8 = y := by omega
    rw [this]
  · have h1 := h j hj
    rw [Nat.zero_add] at h1
    rw [World.cell?_setCell_other _ _ _ _ (by intro e2; injection e2 with _ e3; exact e e3), h1, List.getElem_set_ne e]
theorem by_drewN {w : World} {g : Nat} {l : Bs} (h : BytesAt w g 0 l) (n : Nat) : BytesAt (w.drewN n) g 0 l := fun j hj => by
  have := h j hj
  simpa using this
theorem by_drew {w : World} {g : Nat} {l : Bs} (h : BytesAt w g 0 l) : BytesAt w.drew g 0 l := fun j hj => by
  have := h j hj
  simpa using this
theorem by_below {w w' : World} {g B : Nat} {l : Bs} (h : BytesAt w g 0 l) (hb : Below B w w') (hg : g < B) : BytesAt w' g 0 l := fun j hj => by
  rw [hb.cell (p := ⟨g, 0 + j, none⟩) hg]; exact h j hj
theorem by_back {w : World} {g cap n : Nat} {t : ByteArray} (h : BytesAt w g 0 t.data.toList) (hn : t.size = n) : (convert 39 9 (.slice (some ⟨g, 0, none⟩) n cap)).run Tryz.prog w = .ok (.string t) w := by
  subst hn
  have e : t.data.toList.length = t.size := by simp
  have h1 := run_convert_bytes_back (P := Tryz.prog) w 39 9 5 ⟨g, 0, none⟩ cap t.data.toList Tryz.underlying39 Tryz.underlying5 Tryz.underlying9 (fun j hj => by
    have h2 := h j hj
    have e2 : (⟨g, 0, none⟩ : Addr).add j = ⟨g, 0 + j, none⟩ := by
      unfold Addr.add
      by_cases h0 : j = 0
      · rw [if_pos h0, h0]
      · rw [if_neg h0]
    rw [e2]
    exact h2)
  rw [e] at h1
  exact h1
def spoil (E : ByteArray) (k y : Nat) : ByteArray := ⟨(E.data.toList.set k (UInt8.ofNat y)).toArray⟩
theorem spoil_size (E : ByteArray) (k y : Nat) : (spoil E k y).size = E.size := by
  show (List.toArray _).size = _
  simp
theorem spoil_data (E : ByteArray) (k y : Nat) : (spoil E k y).data.toList = E.data.toList.set k (UInt8.ofNat y) := by
  show (List.toArray _).toList = _
  simp
theorem xor_at (x p : Nat) (hx : x < 256) (hp : p < 255) : ∃ y : Nat, y < 256 ∧ bits .xor .u8 (x : Int) (1 + (p : Int)) = (y : Int) := by
  refine ⟨x ^^^ (1 + p), Nat.xor_lt_two_pow (n := 8) (by omega) (by omega), ?_⟩
  have := u8_xor_nat x (1 + p) hx (by omega)
  rw [← this]
  rfl
theorem xor_at2 (x p : Nat) (hx : x < 256) (hp : p < 255) : ∃ y : Nat, y < 256 ∧ bits .xor .u8 (x : Int) (IntKind.u8.wrap (IntKind.i64.wrap (1 + (p : Int)))) = (y : Int) := by
  have e : IntKind.u8.wrap (IntKind.i64.wrap (1 + (p : Int))) = 1 + (p : Int) := by
    rw [IntKind.wrap_u8', IntKind.wrap_i64]
    omega
  rw [e]
  exact xor_at x p hx hp
end Go.Proofs.YticfcjmlphhpgabGreatDoor
/-
  Spoilt.
-/
namespace Go.Proofs.YticfcjmlphhpgabGreatDoor
open Go.RowKit Go.Maps

set_option maxRecDepth 20000 in
set_option maxHeartbeats 4000000 in
theorem Spoilt_big (s : ByteArray) (c m : Int) (w : World) (hs : s.size ≤ maxLen) (hb : 16384 < s.size) :
    Calls Tryz.prog 4 #[.string s, .int .i64 c, .int .i64 m] w fun e w' => e = .returned (.bool true) ∧ Below w.heap.size w w' := by
  have hs' : s.size ≤ 9223372036854775807 := by unfold maxLen at hs; omega
  go_enter Tryz.func4, Tryz.ntmps4
  go_wp2
  go_ret
  exact ⟨rfl, Below.refl _ _⟩
set_option maxRecDepth 20000 in
set_option maxHeartbeats 8000000 in
theorem Spoilt_any (s : ByteArray) (c m : Int) (w : World) (hT : Lib.Utf8Tabs 0 1 w) (hs : s.size ≤ 16384) (hc : -9223372036854775808 ≤ c ∧ c ≤ 9223372036854775807) (hm : -9223372036854775808 ≤ m ∧ m ≤ 9223372036854775807) :
    Calls Tryz.prog 4 #[.string s, .int .i64 c, .int .i64 m] w fun e w' => e = .returned (.bool true) ∧ Below w.heap.size w w' := by
  have hT2 := tabs2 hT
  have hab : (ByteArray.mk #[97, 98] ++ s).size ≤ 16386 := by
    have h2 : (ByteArray.mk #[97, 98]).size = 2 := rfl
    rw [ByteArray.size_append]; omega
  have hab2 : 2 ≤ (ByteArray.mk #[97, 98] ++ s).size := by
    have h2 : (ByteArray.mk #[97, 98]).size = 2 := rfl
    rw [ByteArray.size_append]; omega
  have cS := hide (stored_any (ByteArray.mk #[97, 98] ++ s) w hT hab)
  go_enter Tryz.func4, Tryz.ntmps4
  go_wp2_with fail
  refine cS.out.mono ?_
  rintro e w1 ⟨q, b, S, n, v7, v8, rfl, hN, hSt, hn, hpos, hv7, hbw, hb1⟩
  have hn0 := hpos hab2
  have hv : SliceS w1 v7 (nms n) := own_strs (by rw [nms_len]; exact hv7)
  have HV := hide hv
  obtain ⟨a7, c7, rfl, hc7, hv⟩ := hv
  obtain ⟨g7, o7, rfl, hg7, hv⟩ := hv (by rw [nms_len]; omega)
  have hv := hv 0 (by rw [nms_len]; exact hn0)
  have e7 : (nms n)[0]'(by rw [nms_len]; exact hn0) = nmK 0 := by simp [nms]
  rw [e7, Nat.add_zero] at hv
  rw [nms_len] at HV hc7 ⊢
  have hTw := hide (tabsB hT2 hT hb1)
  have hT2w := tabs2 hTw.out
  have HB1 := hide hb1
  have hn0z : (0 : Int) < n := by omega
  have cE : Hid (Calls Tryz.prog 9 #[.pointer (some ⟨q, 0, none⟩), .slice (some ⟨g7, o7, none⟩) n c7] w1 fun e w' => ∃ out, SpP S n out ∧ e = .returned (.tuple #[.string (exportB S (nms n) out), .int .i64 0]) ∧ Below w1.heap.size w1 w') := hide (by
    refine (narExport_any q b S _ (nms n) _ hN hSt.ok.ok.ok.closed HV.out (by rw [nms_len]; omega) (fun x hx => by obtain ⟨k, _, rfl⟩ := List.mem_map.1 hx; rw [nmK_size]; omega) (OutOk.of hSt.ok.ok _)).mono ?_
    rintro e w' ⟨out, h1, rfl, h3⟩
    refine ⟨out, hSt.sp hn hn0 h1, ?_, h3⟩
    rw [hSt.lackA]; rfl)
  clear hN hSt hv7 hbw hb1 hpos hab hab2 cS hT e7 HV
  go_wp2_with fail
  refine cE.out.mono ?_
  rintro e w2 ⟨out, hSp, rfl, hb2⟩
  have hE33 := hSp.big
  have hEs := hSp.size
  have hshort := hSp.short
  have hhas := hSp.has
  clear hSp cE
  generalize exportB S (nms n) out = E at hE33 hEs hshort hhas ⊢
  have HSh := hide hshort
  have HHas := hide hhas
  have HB2 := hide hb2
  have hTw := hide (tabsB hT2w hTw.out hb2)
  have hT2w := tabs2 hTw.out
  have hv2 := (hb2.cell (p := ⟨g7, o7, none⟩) hg7).trans hv
  have hg72 : g7 < w2.heap.size := Nat.lt_of_lt_of_le hg7 hb2.size
  clear hshort hhas hb2 hv
  obtain ⟨W3, cap3, hcv, hby, hfro, hb3⟩ := by_conv w2 E
  have HBy := hide hby
  have HB3 := hide hb3
  obtain ⟨k, hk⟩ : ∃ k, pickN c E.size = k := ⟨_, rfl⟩
  have hkl : k < E.size := by rw [← hk]; exact pickN_lt c (by omega)
  obtain ⟨p, hp⟩ : ∃ p, pickN m 255 = p := ⟨_, rfl⟩
  have hpl : p < 255 := by rw [← hp]; exact pickN_lt m (by omega)
  have cK : Hid (∀ V, Calls Tryz.prog 7 #[.int .i64 c, .int .i64 (E.size : Nat)] V fun e w' => e = .returned (.int .i64 (k : Nat)) ∧ w' = V) := hide fun V => by
    rw [← hk]
    exact pick_det c E.size (by omega) (by omega) hc V
  have cM : Hid (∀ V, Calls Tryz.prog 7 #[.int .i64 m, .int .i64 255] V fun e w' => e = .returned (.int .i64 (p : Nat)) ∧ w' = V) := hide fun V => by
    rw [← hp]
    exact pick_det m 255 (by omega) (by omega) hm V
  have hkd : k < E.data.toList.length := by simpa using hkl
  obtain ⟨x, hx, hx256⟩ : ∃ x : Nat, W3.cell? ⟨w2.heap.size, k, none⟩ = some (.int .u8 (x : Int)) ∧ x < 256 := by
    have := hby k hkd
    rw [Nat.zero_add] at this
    exact ⟨_, this, UInt8.toNat_lt _⟩
  obtain ⟨y, hy256, hxor⟩ := xor_at2 x p hx256 hpl
  have hfk := hfro k hkl
  have hkz : (k : Int) < E.size := by omega
  clear hby hb3 hfro hk hp
  generalize hg3 : w2.heap.size = g3 at hx hfk HBy HB3 hcv hg72
  have HG3 := hide hg3
  have HX := hide hxor
  clear hg3 hxor
  go_upto_region 10 with fail
  go_cut [62] from 23 to 63 (fun _ wc => ∃ t : ByteArray, t.size = E.size ∧ Hid (BytesAt wc g3 0 t.data.toList) ∧ Hid (Below g3 w2 wc))
  case first =>
    clear HG3 HSh HHas HB1 HB2 hTw hT2w hT2 hv2 hg72 hg7 hc7 hn0z hn0 hn hs hc hm hpl hx256 hcv hEs hE33
    go_region_with (first | (go_at_call 7; first | (with_reducible refine (cK.out _).mono ?_; rintro e w8 ⟨rfl, rfl⟩) | (with_reducible refine (cM.out _).mono ?_; rintro e w8 ⟨rfl, rfl⟩)))
    all_goals
      go_wp2
      go_meet
      exact ⟨spoil E k y, spoil_size _ _ _, hide (by rw [HX.out, spoil_data]; exact by_drew (by_set HBy.out hkd hy256)), hide (HB3.out.setCell (Nat.le_refl _) _).drew⟩
  case rest =>
  obtain ⟨t, htz, HBt, HBc⟩ := hcut
  generalize wc = w3 at HBt HBc ⊢
  have hTw := hide (tabsB hT2w hTw.out (by rw [HG3.out]; exact HBc.out))
  have hT2w := tabs2 hTw.out
  have hv3 := (HBc.out.cell (p := ⟨g7, o7, none⟩) hg72).trans hv2
  have HB3 : Hid (Below w.heap.size w w3) := hide ((HB1.out.trans (HB2.out.mono HB1.out.size)).trans (HBc.out.mono (by rw [← HG3.out]; exact Nat.le_trans HB1.out.size HB2.out.size)))
  have hg33 : g3 < w3.heap.size := by
    have h1 := HBt.out 0 (by have : t.data.toList.length = t.size := by simp
                             omega)
    exact World.block_lt_of_cell? _ _ h1
  have hg73 : g7 < w3.heap.size := Nat.lt_trans hg72 hg33
  clear hv2 HBy HBc HB1 HB2 hx hfk HX hcv hx256 hy256 cM hpl hm
  go_wp2_with fail
  refine (NewStore_any w3).mono ?_
  rintro e w4 ⟨rfl, hY, hb4⟩
  have hback := by_back (cap := cap3) (by_below HBt.out hb4 hg33) htz
  obtain ⟨⟨⟨ad, er, pl⟩, T⟩, hr⟩ : ∃ r, importF [] t.data.toList = r := ⟨_, rfl⟩
  have hA4 := (Below.refl _ w4).alloc (Nat.le_refl _) (.cells #[.string t] 9)
  have cI := hide (imp_any (w0 := w3) (Nat.le_refl _) (by omega) (⟨block_keep _ (nst_new hY).1, (nst_new hY).2.below hA4⟩ : NStF (fun _ => True) (w4.alloc (.cells #[.string t] 9)) (w3.heap.size + 1) w3.heap.size []) (tabsB hT2w hTw.out (hb4.trans (hA4.mono hb4.size))) (one_sliceS w4 t) (by simp) (by simp [joinB]; omega) (fun e he => by cases he) (by simp) (show importF [] (joinB [t]) = ((ad, er, pl), T) by rw [show joinB [t] = t.data.toList by simp [joinB]]; exact hr))
  have HB4 := hide (hb4.trans (hA4.mono hb4.size))
  clear hY hb4 hA4 HBt
  go_wp2_with fail
  refine cI.out.mono ?_
  rintro e w5 ⟨a5, c5, rfl, hA5, hY5, hb5⟩
  have HB5 := hide (HB4.out.trans hb5)
  have HA5 := hide hA5
  have HY5 := hide hY5
  clear hA5 hY5 hb5 cI HB4 hback
  have hpl := import_place (A := []) t.data.toList
  rw [hr] at hpl
  simp only at hpl
  have htl : t.data.toList.length = t.size := by simp
  have HPL := hide hpl
  clear hpl
  go_upto_if 75 with fail
  go_cut [17, 18] from 23 to 114 (fun _ _ wc => Hid (Below w3.heap.size w3 wc))
  case first =>
    rcases HPL.out with ⟨h1, h2⟩ | ⟨h1, h2, h3, h4⟩
    · subst h1
      subst h2
      obtain ⟨hOk, hlk, hne, hten, hps, hlong⟩ := import_long (by omega) hr
      have hadn : ad.length ≠ 0 := fun e => by
        have := hne (List.eq_nil_of_length_eq_zero e)
        omega
      have cX : Hid (Calls Tryz.prog 9 #[.pointer (some ⟨w3.heap.size + 1, 0, none⟩), .slice a5 ad.length c5] w5 fun e w' => ∃ X : ByteArray, X.size = E.size ∧ e = .returned (.tuple #[.string X, .int .i64 0]) ∧ Below w5.heap.size w5 w') := hide (by
        refine (narExport_any _ _ T _ ad _ ⟨HY5.out.1, HY5.out.2.st⟩ hOk.ok.closed HA5.out (by omega) (fun x hx => by have := hps x hx; omega) (OutOk.of hOk _)).mono ?_
        rintro e w' ⟨out2, k1, rfl, k3⟩
        refine ⟨exportB T ad out2, by rw [hlong out2 k1]; omega, ?_, k3⟩
        rw [hlk]; rfl)
      have hadz : ¬ (ad.length : Int) = 0 := by omega
      clear hr hOk hlk hne hten hps hlong HA5 HY5
      go_wp2_with fail
      refine cX.out.mono ?_
      rintro e w6 ⟨X, hX, rfl, hb6⟩
      have hXz : (X.size : Int) = E.size := by omega
      go_wp2
      go_meet
      exact hide (HB5.out.trans (hb6.mono HB5.out.size))
    · subst h2
      subst h3
      have cQ : Hid (Calls Tryz.prog 12 #[.pointer (some ⟨w3.heap.size + 1, 0, none⟩)] w5 fun e w' => ∃ a c, e = .returned (.slice a 0 c) ∧ Below w5.heap.size w5 w') := hide (by
        refine (narPaths_any _ _ _ w5 ⟨HY5.out.1, HY5.out.2.st⟩ List.Pairwise.nil (by simp)).mono ?_
        rintro e w' ⟨v, rfl, h1, h2⟩
        obtain ⟨a, c, rfl, _⟩ := own_slice h1
        exact ⟨a, c, rfl, h2⟩)
      have h1b : (er == 0) = false := beq_eq_false_iff_ne.2 h1
      have hplz : (pl : Int) ≤ E.size := by omega
      have hpl0 : ¬ (pl : Int) < 0 := by omega
      clear hr HA5 HY5
      simp only [List.length_nil]
      go_wp2_with fail
      refine cQ.out.mono ?_
      rintro e w6 ⟨a6, c6, rfl, hb6⟩
      go_wp2
      go_meet
      exact hide (HB5.out.trans (hb6.mono HB5.out.size))
  case rest =>
  clear HB5 HA5 HY5 hr HPL
  generalize wc = w6 at hcut ⊢
  have HB6 := hide (HB3.out.trans (hcut.out.mono HB3.out.size))
  have hTw := hide (tabsB hT2w hTw.out hcut.out)
  have hT2w := tabs2 hTw.out
  have hv6 := (hcut.out.cell (p := ⟨g7, o7, none⟩) hg73).trans hv3
  have hg76 : g7 < w6.heap.size := Nat.lt_of_lt_of_le hg73 hcut.out.size
  clear hcut HB3 hv3 hg73
  go_wp2_with fail
  refine (NewStore_any w6).mono ?_
  rintro e w7 ⟨rfl, hY, hb7⟩
  have HY7 := hide (nst_new hY)
  have HB7 := hide hb7
  clear hY hb7
  have hqz : w6.heap.size + 1 ≠ w6.heap.size := by omega
  obtain ⟨X, hX⟩ : ∃ X, E.extract 0 k = X := ⟨_, rfl⟩
  have hXz : X.size ≤ 500000 := by rw [← hX, ByteArray.size_extract]; omega
  have cI : Hid (Calls Tryz.prog 11 #[.pointer (some ⟨w6.heap.size + 1, 0, none⟩), .slice (some ⟨w7.heap.size, 0, none⟩) 1 1] (w7.alloc (.cells #[.string X] 9)) fun e w' => ∃ a c, e = .returned (.tuple #[.slice a 0 c, .int .i64 2, .int .i64 (k : Nat)]) ∧ NStF (fun _ => True) w' (w6.heap.size + 1) w6.heap.size [] ∧ Below w6.heap.size w6 w') := hide (by
    have hA := (Below.refl _ w7).alloc (Nat.le_refl _) (.cells #[.string X] 9)
    have hB7 := HB7.out.trans (hA.mono HB7.out.size)
    refine (imp_any (w0 := w6) (T := []) (out := []) (er := 2) (at' := k) (Nat.le_refl _) hqz (⟨block_keep _ HY7.out.1, HY7.out.2.below hA⟩ : NStF (fun _ => True) (w7.alloc (.cells #[.string X] 9)) (w6.heap.size + 1) w6.heap.size []) (tabsB hT2w hTw.out hB7) (one_sliceS w7 X) (by simp) (by simp [joinB]; omega) (fun e he => by cases he) (by simp) (by rw [show joinB [X] = X.data.toList by simp [joinB], ← hX]; exact HSh.out k hkl)).mono ?_
    rintro e w' ⟨a, c, rfl, _, h2, h3⟩
    exact ⟨a, c, rfl, h2, hB7.trans h3⟩)
  clear HY7 HB7
  go_wp2_with fail
  refine (cK.out _).mono ?_
  rintro e w8 ⟨rfl, rfl⟩
  go_wp2_with fail
  refine cI.out.mono ?_
  rintro e w9 ⟨a9, c9, rfl, hY9, hb9⟩
  have HY9 := hide hY9
  have HB9 := hide hb9
  clear hY9 hb9 cI
  have cQ : Hid (Calls Tryz.prog 12 #[.pointer (some ⟨w6.heap.size + 1, 0, none⟩)] w9 fun e w' => ∃ a c, e = .returned (.slice a 0 c) ∧ NStF (fun _ => True) w' (w6.heap.size + 1) w6.heap.size [] ∧ Below w6.heap.size w6 w') := hide (by
    refine (narPaths_any _ _ _ w9 ⟨HY9.out.1, HY9.out.2.st⟩ List.Pairwise.nil (by simp)).mono ?_
    rintro e w' ⟨v, rfl, h1, h2⟩
    obtain ⟨a, c, rfl, _⟩ := own_slice h1
    exact ⟨a, c, rfl, ⟨(h2.block _ (lt_of_block HY9.out.1)).trans HY9.out.1, HY9.out.2.below h2⟩, HB9.out.trans (h2.mono HB9.out.size)⟩)
  clear HY9 HB9
  go_upto_region 21 with fail
  go_cut [149] from 23 to 149 (fun v wc => v = .bool false ∧ Hid (NStF (fun _ => True) wc (w6.heap.size + 1) w6.heap.size []) ∧ Hid (Below w6.heap.size w6 wc))
  case first =>
    go_wp2_with fail
    refine (cK.out _).mono ?_
    rintro e w8 ⟨rfl, rfl⟩
    go_wp2_with fail
    refine cQ.out.mono ?_
    rintro e w10 ⟨a10, c10, rfl, hY10, hb10⟩
    go_wp2
    go_meet
    exact ⟨rfl, hide hY10, hide hb10⟩
  case rest =>
  obtain ⟨rfl, HY10, HB10⟩ := hcut
  generalize wc = w10 at HY10 HB10 ⊢
  clear cQ cK HSh
  have hv10 := (HB10.out.cell (p := ⟨g7, o7, none⟩) hg76).trans hv6
  have cN : Hid (Calls Tryz.prog 14 #[.pointer (some ⟨w6.heap.size + 1, 0, none⟩), .string (nmK 0), .slice (some ⟨w10.heap.size, 0, none⟩) 1 1, .slice none 0 0] (w10.alloc (.cells #[.string ⟨#[]⟩, .int .i64 1, .string anD] 43)) fun e w' => e = .returned (.int .i64 0) ∧ NStF (fun _ => True) w' (w6.heap.size + 1) w6.heap.size [anE] ∧ Below w6.heap.size w6 w') := hide (by
    have hA := (Below.refl _ w10).alloc (Nat.le_refl _) (.cells #[.string ⟨#[]⟩, .int .i64 1, .string anD] 43)
    have hB := HB10.out.trans (hA.mono HB10.out.size)
    have ho : (w10.alloc (.cells #[.string ⟨#[]⟩, .int .i64 1, .string anD] 43)).ownsRow w10.heap.size 43 3 (.slice (some ⟨w10.heap.size, 0, none⟩) 1 1) anN.length (flat3 anN) := own_one w10 w10.heap.size 43 #[.string ⟨#[]⟩, .int .i64 1, .string anD] (Nat.le_refl _)
    have h := narInsertF_any (fun _ => True) (w6.heap.size + 1) w6.heap.size [] anE (.slice (some ⟨w10.heap.size, 0, none⟩) 1 1) (.slice none 0 0) (w10.alloc (.cells #[.string ⟨#[]⟩, .int .i64 1, .string anD] 43)) ⟨block_keep _ HY10.out.1, HY10.out.2.below hA⟩ (fun _ _ => trivial) (tabsB hT2w hTw.out hB) (own_nodes ho).1 ⟨by show anN.length ≤ _; simp [anN], fun y hy => by have hy : y ∈ anN := hy; simp [anN] at hy; subst hy; exact ⟨by decide, by decide⟩⟩ (own_strs (World.ownsRow_nil _ 0 _ _)) (by show ([] : List ByteArray).length ≤ _; simp) (fun r hr => by cases hr) (fun e he => by cases he) (by show (nmK 0).size ≤ _; rw [nmK_size]; omega)
    rw [anE_ins] at h
    refine h.mono ?_
    rintro e w' ⟨rfl, h1, h2⟩
    exact ⟨rfl, h1, hB.trans (h2.2 _ (Nat.le_refl _))⟩)
  clear HY10
  go_wp2_with fail
  refine cN.out.mono ?_
  rintro e w11 ⟨rfl, hY11, hb11⟩
  obtain ⟨pp, hpp⟩ := HHas.out
  have cJ : Hid (Calls Tryz.prog 11 #[.pointer (some ⟨w6.heap.size + 1, 0, none⟩), .slice (some ⟨w11.heap.size, 0, none⟩) 1 1] (w11.alloc (.cells #[.string E] 9)) fun e w' => ∃ a c, e = .returned (.tuple #[.slice a 0 c, .int .i64 12, .int .i64 (pp : Nat)]) ∧ NStF (fun _ => True) w' (w6.heap.size + 1) w6.heap.size [anE] ∧ Below w6.heap.size w6 w') := hide (by
    have hA := (Below.refl _ w11).alloc (Nat.le_refl _) (.cells #[.string E] 9)
    have hB := hb11.trans (hA.mono hb11.size)
    refine (imp_any (w0 := w6) (T := [anE]) (out := []) (er := 12) (at' := pp) (Nat.le_refl _) hqz (⟨block_keep _ hY11.1, hY11.2.below hA⟩ : NStF (fun _ => True) (w11.alloc (.cells #[.string E] 9)) (w6.heap.size + 1) w6.heap.size [anE]) (tabsB hT2w hTw.out hB) (one_sliceS w11 E) (by simp) (by simp [joinB]; omega) (fun e he => by simp at he; subst he; show ([] : List ByteArray).length ≤ _; simp) (by simp) (by rw [show joinB [E] = E.data.toList by simp [joinB]]; exact hpp)).mono ?_
    rintro e w' ⟨a, c, rfl, _, h2, h3⟩
    exact ⟨a, c, rfl, h2, hB.trans h3⟩)
  have hg71 := hg76
  clear hY11 HHas hpp cN
  have HB11 := hide hb11
  clear hb11
  go_wp2_with fail
  refine cJ.out.mono ?_
  rintro e w12 ⟨a12, c12, rfl, hY12, hb12⟩
  have hv12 := (hb12.cell (p := ⟨g7, o7, none⟩) hg76).trans hv6
  have cG : Hid (Calls Tryz.prog 15 #[.pointer (some ⟨w6.heap.size + 1, 0, none⟩), .string (nmK 0)] w12 fun r w' => ∃ gt tc ra rc, r = .returned (.tuple #[.agg #[.slice (some ⟨gt, 0, none⟩) 1 tc, .slice ra 0 rc, .string (sumB anN)], .int .i64 0]) ∧ w'.cell? ⟨gt, 2, none⟩ = some (.string anD) ∧ NSt w' (w6.heap.size + 1) w6.heap.size [anE] ∧ Below w6.heap.size w6 w') := hide (by
    have hN12 : NSt w12 (w6.heap.size + 1) w6.heap.size [anE] := ⟨hY12.1, hY12.2.st⟩
    refine (narGet_any (w6.heap.size + 1) w6.heap.size [anE] (nmK 0) w12 hN12 anE_ok.ok.ok (tabsB hT2w hTw.out hb12) (by rw [nmK_size]; omega)).mono ?_
    unfold nodesR refsR sumR errG
    rw [anE_find]
    rintro r w' ⟨ta, tc, ra, rc, rfl, h1, h2, hb⟩
    have h1' : w'.ownsRow w12.heap.size 43 3 (.slice ta anN.length tc) anN.length (flat3 anN) := h1
    obtain ⟨gt, cp, hgt, _⟩ := own_form h1' (by simp [anN])
    cases hgt
    exact ⟨gt, tc, ra, rc, rfl, h1'.cellAt 2 (by decide), hN12.below hb, hb12.trans (hb.mono hb12.size)⟩)
  clear hY12 cJ
  have HB12 := hide hb12
  clear hb12
  go_wp2_with fail
  refine cG.out.mono ?_
  rintro r w13 ⟨gt, tc, ra, rc, rfl, hd, hN13, hb13⟩
  generalize sumB anN = sm
  obtain ⟨a0, a1, a2⟩ := three_newG w13 (.slice (some ⟨gt, 0, none⟩) 1 tc) (.slice ra 0 rc) (.string sm) 46
  have hd14 := cellAG (.cells #[.slice (some ⟨gt, 0, none⟩) 1 tc, .slice ra 0 rc, .string sm] 46) hd
  have hA := (Below.refl _ w13).alloc (Nat.le_refl _) (.cells #[.slice (some ⟨gt, 0, none⟩) 1 tc, .slice ra 0 rc, .string sm] 46)
  have cQ : Hid (Calls Tryz.prog 12 #[.pointer (some ⟨w6.heap.size + 1, 0, none⟩)] (w13.alloc (.cells #[.slice (some ⟨gt, 0, none⟩) 1 tc, .slice ra 0 rc, .string sm] 46)) fun e w' => ∃ a c, e = .returned (.slice a 1 c) ∧ w'.cell? ⟨w13.heap.size, 0, none⟩ = some (.slice (some ⟨gt, 0, none⟩) 1 tc) ∧ w'.cell? ⟨gt, 2, none⟩ = some (.string anD) ∧ Below w6.heap.size w6 w') := hide (by
    have hB14 := hb13.trans (hA.mono hb13.size)
    refine (narPaths_any _ _ [anE] _ (hN13.below hA) (List.pairwise_singleton _ _) (by simp)).mono ?_
    rintro e w' ⟨v, rfl, h1, h2⟩
    obtain ⟨a, c, rfl, _⟩ := own_slice h1
    exact ⟨a, c, rfl, cellBG h2 a0, cellBG h2 hd14, hB14.trans (h2.mono hB14.size)⟩)
  have h7 : ((anD.extract 0 7).toList == [97, 110, 111, 116, 104, 101, 114]) = true := by rw [ByteArray.toList_eq, Lib.extract_data]; decide
  have h37 : anD.size = 37 := by decide
  clear hN13 hb13 hd hA hd14 a0 a1 a2 cG
  generalize anD = D at cQ h7 h37
  go_wp2_with fail
  refine cQ.out.mono ?_
  rintro e w15 ⟨a15, c15, rfl, e0, e1, hb15⟩
  have HB15 := hide (HB6.out.trans (hb15.mono HB6.out.size))
  clear hb15
  go_wp2
  go_ret
  exact ⟨rfl, HB15.out⟩
end Go.Proofs.YticfcjmlphhpgabGreatDoor
