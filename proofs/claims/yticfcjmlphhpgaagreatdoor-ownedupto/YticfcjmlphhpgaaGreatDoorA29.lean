import Derived.Test.YticfcjmlphhpgaaGreatDoorA28
import Derived.Maps.AppendAt
/-
  THE LAW: its own helpers: marks, picks, stages.
-/
namespace Go.Proofs.YticfcjmlphhpgaaGreatDoor
open Go.RowKit

/-- The mark of the k-th list. -/
def markB (k : Nat) : ByteArray := ⟨#[109, 105, 110, 101]⟩ ++ ⟨[UInt8.ofNat (k % 256), UInt8.ofNat (k / 256 % 256), UInt8.ofNat (k / 65536)].toArray⟩
theorem u8_of {n : Nat} (h : n < 256) : ((UInt8.ofNat n).toNat : Int) = n := by
  have : (UInt8.ofNat n).toNat = n := by simp; omega
  rw [this]
theorem conv_three (w : World) (a b c : UInt8) :
    (convert 95 9 (.slice (some ⟨w.heap.size, 0, none⟩) 3 3)).run Tryz.prog (w.alloc (.cells #[.int .u8 (a.toNat : Int), .int .u8 (b.toNat : Int), .int .u8 (c.toNat : Int)] 5)) = .ok (.string ⟨[a, b, c].toArray⟩) (w.alloc (.cells #[.int .u8 (a.toNat : Int), .int .u8 (b.toNat : Int), .int .u8 (c.toNat : Int)] 5)) := by
  refine run_convert_bytes_back (P := Tryz.prog) _ 95 9 5 ⟨w.heap.size, 0, none⟩ 3 [a, b, c] Tryz.underlying95 Tryz.underlying5 Tryz.underlying9 (fun j hj => ?_)
  have hk := block_new w (.cells #[.int .u8 (a.toNat : Int), .int .u8 (b.toNat : Int), .int .u8 (c.toNat : Int)] 5)
  have hadd : (⟨w.heap.size, 0, none⟩ : Addr).add j = ⟨w.heap.size, j, none⟩ := by unfold Addr.add; split <;> simp_all
  rw [hadd]
  simp only [World.cell?, hk]
  match j, hj with
  | 0, _ => rfl
  | 1, _ => rfl
  | 2, _ => rfl
set_option maxRecDepth 20000 in
set_option maxHeartbeats 400000 in
theorem mark_any (k : Nat) (hk : k ≤ 1000000) (w : World) : Calls Tryz.prog 34 #[.int .i64 k] w fun e w' => e = .returned (.string (markB k)) ∧ Below w.heap.size w w' := by
  have hc := conv_three w (UInt8.ofNat (k % 256)) (UInt8.ofNat (k / 256 % 256)) (UInt8.ofNat (k / 65536))
  rw [u8_of (by omega), u8_of (by omega), u8_of (by omega)] at hc
  have e1 : ((k % 256 : Nat) : Int) = (k : Int) % 256 := by omega
  have e2 : ((k / 256 % 256 : Nat) : Int) = (k : Int) / 256 % 256 := by omega
  have e3 : ((k / 65536 : Nat) : Int) = (k : Int) / 65536 := by omega
  rw [e1, e2, e3] at hc
  clear e1 e2 e3
  unfold markB
  have hsz : [UInt8.ofNat (k % 256), UInt8.ofNat (k / 256 % 256), UInt8.ofNat (k / 65536)].toArray.size = 3 := rfl
  generalize [UInt8.ofNat (k % 256), UInt8.ofNat (k / 256 % 256), UInt8.ofNat (k / 65536)].toArray = z at hc hsz ⊢
  go_enter Tryz.func34, Tryz.ntmps34
  go_wp2
  go_ret
  exact ⟨rfl, (Below.refl _ w).alloc (Nat.le_refl _) _⟩
theorem pick_neg {c : Int} {n : Nat} (hn : 0 < n) (hc : c < 0) : -(c + 1).tmod (n : Int) = (((-(c + 1)) % (n : Int)).toNat : Int) ∧ ((-(c + 1)) % (n : Int)).toNat < n := by
  have h0 : (0 : Int) ≤ -(c + 1) := by omega
  have hn' : (0 : Int) < n := by omega
  have h1 := Int.emod_nonneg (-(c + 1)) (by omega : (n : Int) ≠ 0)
  have h2 := Int.emod_lt_of_pos (-(c + 1)) hn'
  constructor
  · rw [Int.toNat_of_nonneg h1, ← Int.tmod_eq_emod_of_nonneg h0, Int.neg_tmod]
  · omega
theorem stage_any (k : Int) (w : World) : Calls Tryz.prog 14 #[.int .i64 k] w fun e w' => e = .returned (.int .i64 (if k ≤ 5 then 3 else 4)) ∧ w' = w := by
  by_cases h : k ≤ 5
  · rw [if_pos h]
    go_enter Tryz.func14, Tryz.ntmps14
    go_wp2
    go_ret
    exact ⟨rfl, rfl⟩
  · rw [if_neg h]
    go_enter Tryz.func14, Tryz.ntmps14
    go_wp2
    go_ret
    exact ⟨rfl, rfl⟩
end Go.Proofs.YticfcjmlphhpgaaGreatDoor
/-
  THE LAW: lists that were handed out are the caller's.
-/
namespace Go.Proofs.YticfcjmlphhpgaaGreatDoor
open Go.RowKit Go.Maps

/-- What is left as it was: all blocks but some. -/
structure KO (X : Nat → Prop) (w w' : World) : Prop where
  os : w'.os = w.os
  tape : w'.tape = w.tape
  output : w'.output = w.output
  size : w.heap.size ≤ w'.heap.size
  blk : ∀ k, k < w.heap.size → ¬ X k → w'.heap[k]? = w.heap[k]?
theorem KO.trans {X : Nat → Prop} {w w1 w2 : World} (h : KO X w w1) (k : KO X w1 w2) : KO X w w2 :=
  ⟨k.os.trans h.os, k.tape.trans h.tape, k.output.trans h.output, Nat.le_trans h.size k.size, fun i hi hx => (k.blk i (Nat.lt_of_lt_of_le hi h.size) hx).trans (h.blk i hi hx)⟩
theorem KO.of {X : Nat → Prop} {w w' : World} (h : Below w.heap.size w w') : KO X w w' := ⟨h.os, h.tape, h.output, h.size, fun k hk _ => h.block k hk⟩
theorem KO.below {X : Nat → Prop} {w w' : World} {B : Nat} (h : KO X w w') (hB : B ≤ w.heap.size) (hX : ∀ k, k < B → ¬ X k) : Below B w w' := ⟨h.os, h.tape, h.output, h.size, fun k hk => h.blk k (by omega) (hX k hk)⟩
theorem KO.grown {X : Nat → Prop} {w w' : World} {row : Option Nat} (h : w.grownBy w' row) (hX : ∀ k, row = some k → X k) : KO X w w' := ⟨h.os, h.tape, h.output, h.size, fun k hk hx => h.block k hk (fun e => hx (hX k e.symm))⟩
theorem KO.set {X : Nat → Prop} {w : World} {b j : Nat} {v : Value} (hX : X b) : KO X w (w.setCell ⟨b, j, none⟩ v) := ⟨rfl, rfl, rfl, by simp [World.setCell], fun k _ hx => Below.heap_setCell _ _ _ _ (fun e => hx (e ▸ hX))⟩
theorem KO.alloc {X : Nat → Prop} {w : World} (o : Obj) : KO X w (w.alloc o) := KO.of ((Below.refl _ w).alloc (Nat.le_refl _) o)
theorem Tryz.info26 : (Tryz.prog.info? 26).map (fun i => (i.zero, i.size, i.bytes)) = some (some (.slice none 0 0), 1, 24) := by kernel_rfl
theorem Tryz.info25 : (Tryz.prog.info? 25).map (fun i => (i.zero, i.size, i.bytes)) = some (some (.slice none 0 0), 1, 24) := by kernel_rfl
theorem rep_set {xs : List Value} {n j : Nat} {u : Value} (hl : xs.length = n) (hj : j < n) : (List.replicate j u ++ xs.drop j).set j u = List.replicate (j + 1) u ++ xs.drop (j + 1) := by
  rw [List.set_append_right _ _ (by simp), List.length_replicate, Nat.sub_self]
  have hd : xs.drop j = xs[j] :: xs.drop (j + 1) := List.drop_eq_getElem_cons (by omega)
  rw [hd, List.set_cons_zero, List.replicate_succ', List.append_assoc]; rfl
theorem rep_two {α : Type} (j : Nat) (u : α) : List.replicate j u ++ [u, u] = List.replicate (j + 2) u := by
  rw [show [u, u] = List.replicate 2 u from rfl, List.replicate_append_replicate]
/-- The caller's world, in memory. -/
def WBk (w : World) (wb : Nat) (vss vbs vls vts : Value) (lk : Bool) : Prop := w.heap[wb]? = some (.cells #[vss, vbs, vls, vts, .bool lk] 36 (0, 0))
/-- A row's block is the old one, or new. -/
def OldNew (w : World) (v v' : Value) : Prop := ∀ g, v'.ownBlock = some g → v.ownBlock = some g ∨ w.heap.size ≤ g
theorem OldNew.of {w wr : World} {v v' : Value} {o : Obj} (hs : w.heap.size ≤ wr.heap.size) (hat : v'.ownBlock = v.ownBlock ∨ v'.ownBlock = some (wr.alloc o).heap.size) : OldNew w v v' := fun g hg => by
  rcases hat with h | h
  · exact .inl (h ▸ hg)
  · rw [h, World.size_alloc] at hg
    injection hg with hg
    exact .inr (by omega)
theorem WBk.cell {w : World} {wb : Nat} {vss vbs vls vts : Value} {lk : Bool} (h : WBk w wb vss vbs vls vts lk) : w.cell? ⟨wb, 0, none⟩ = some vss ∧ w.cell? ⟨wb, 1, none⟩ = some vbs ∧ w.cell? ⟨wb, 2, none⟩ = some vls ∧ w.cell? ⟨wb, 3, none⟩ = some vts ∧ w.cell? ⟨wb, 4, none⟩ = some (.bool lk) := by
  unfold WBk at h
  refine ⟨?_, ?_, ?_, ?_, ?_⟩ <;> simp [World.cell?, h]
theorem WBk.fro {w : World} {wb : Nat} {vss vbs vls vts : Value} {lk : Bool} (h : WBk w wb vss vbs vls vts lk) (j : Nat) : w.frozen? ⟨wb, j, none⟩ = false := by
  unfold WBk at h
  simp [World.frozen?, h]
set_option maxRecDepth 20000 in
set_option maxHeartbeats 4000000 in
theorem mine_any (B Bv wb : Nat) (vss vbs vls vts v : Value) (lk : Bool) (lv xs : List Value) (n : Nat) (w : World) (hwb : WBk w wb vss vbs vls vts lk) (hls : w.ownsRow B 26 1 vls lv.length lv) (hln : lv.length ≤ 1000000) (hv : w.ownsRow Bv 9 1 v n xs) (hn : n ≤ 2000000) (hBv : Bv ≤ w.heap.size) (hBw : B ≤ w.heap.size) :
    Calls Tryz.prog 22 #[.pointer (some ⟨wb, 0, none⟩), v] w fun e w' => e = .returned (.tuple #[]) ∧ ∃ v' vls', WBk w' wb vss vbs vls' vts lk ∧ w'.ownsRow B 26 1 vls' (lv.length + 1) (lv ++ [v']) ∧ w'.ownsRow Bv 9 1 v' (n + 2) (List.replicate (n + 2) (.string (markB lv.length))) ∧ KO (fun k => k = wb ∨ vls.ownBlock = some k ∨ v.ownBlock = some k) w w' ∧ OldNew w vls vls' ∧ OldNew w v v' := by
  obtain ⟨i9, hi9, h90, h91, h92⟩ := info_parts Tryz.info9
  obtain ⟨i26, hi26, h260, h261, h262⟩ := info_parts Tryz.info26
  have hxl : xs.length = n := by have := hv.1; omega
  obtain ⟨va, vc, rfl, _⟩ := own_sl hv
  obtain ⟨la, lc, rfl, _⟩ := own_sl hls
  have c2 := hwb.cell.2.2.1
  have cM := hide (mark_any lv.length hln w)
  generalize hX : (fun k => k = wb ∨ (Value.slice la lv.length lc).ownBlock = some k ∨ (Value.slice va n vc).ownBlock = some k) = X
  have hXw : X wb := by rw [← hX]; exact .inl rfl
  have hXl : ∀ k, (Value.slice la lv.length lc).ownBlock = some k → X k := fun k h => by rw [← hX]; exact .inr (.inl h)
  have hXv : ∀ k, (Value.slice va n vc).ownBlock = some k → X k := fun k h => by rw [← hX]; exact .inr (.inr h)
  have HXX := hide (And.intro hXw (And.intro hXl hXv))
  generalize markB lv.length = m at cM ⊢
  have HWB := hide hwb
  have HLS := hide hls
  have HV := hide hv
  clear hwb hls hv hX hXw hXl hXv
  go_enter Tryz.func22, Tryz.ntmps22
  go_wp2_with fail
  refine cM.out.mono ?_
  rintro e w1 ⟨rfl, hb1⟩
  have HWB1 : Hid (WBk w1 wb vss vbs (.slice la lv.length lc) vts lk) := hide ((hb1.block _ (lt_of_block HWB.out)).trans HWB.out)
  have HLS1 := hide (own_below HLS.out hb1)
  have HV1 := hide (own_below HV.out hb1)
  have HK1 : Hid (KO X w w1) := hide (KO.of hb1)
  clear hb1 cM HWB HLS HV c2
  go_wp2
  go_loopw [15] (fun iv w2 => ∃ j : Nat, j ≤ n ∧ iv = .int .i64 j ∧ Hid (w2.ownsRow Bv 9 1 (.slice va n vc) n (List.replicate j (.string m) ++ xs.drop j)) ∧ Hid (KO X w w2) ∧ Hid (WBk w2 wb vss vbs (.slice la lv.length lc) vts lk) ∧ Hid (w2.ownsRow B 26 1 (.slice la lv.length lc) lv.length lv)) (fun iv _ => n - (intOf iv).toNat)
  case atStart => exact ⟨0, by omega, rfl, HV1, HK1, HWB1, HLS1⟩
  case round =>
    obtain ⟨j, hj, rfl, HV2, HK2, HWB2, HLS2⟩ := hrel
    clear HV1 HK1 HWB1 HLS1
    by_cases hlt : j < n
    · have hltz : (j : Int) < n := by omega
      obtain ⟨g, cap, hga, _⟩ := own_form HV2.out (by omega)
      injection hga with hga _ hcc
      subst hga
      subst hcc
      have c0 : ∃ u, wr.cell? ⟨g, j, none⟩ = some u := by
        rw [HV2.out.cellAt j (by omega)]
        exact ⟨_, List.getElem?_eq_getElem (by have := HV2.out.1; omega)⟩
      obtain ⟨u, c0⟩ := c0
      have f0 := HV2.out.frozenAt j
      obtain ⟨hst, hgr⟩ := HV2.out.stored j (.string m)
      rw [rep_set hxl hlt] at hst
      obtain ⟨cur, hcur⟩ := own_block HV2.out rfl
      have HV3 := hide hst
      have HK3 : Hid (KO X w (wr.setCell ⟨g, j, none⟩ (.string m))) := hide (HK2.out.trans (KO.set (HXX.out.2.2 g rfl)))
      have HWB3 : Hid (WBk (wr.setCell ⟨g, j, none⟩ (.string m)) wb vss vbs (.slice la lv.length lc) vts lk) := hide ((set_keepT hcur (by decide) _ _ _ HWB2.out).trans HWB2.out)
      have HLS3 := hide (own_keepT HLS2.out (set_keepT (j := j) (u := .string m) hcur (by decide)))
      clear hst hgr hcur HV2 HK2 HWB2 HLS2
      go_wp2
      go_roundw
      case rel => exact ⟨j + 1, by omega, by go_num, HV3, HK3, HWB3, HLS3⟩
      case measure => simp [intOf]; omega
    · obtain rfl : j = n := by omega
      have hltz : ¬ ((j : Nat) : Int) < j := by omega
      have hv2 := HV2.out
      rw [List.drop_eq_nil_of_le (by omega), List.append_nil] at hv2
      have HV3 := hide hv2
      have hsz2 := HK2.out.size
      clear hv2 HV2
      go_wp2_with (at_builtin; first
        | (refine wpList_append_own_at _ rfl (.tmp 23) (.tmp 26) 26 rfl Bv 9 i9 (.string ⟨#[]⟩) 1 16 Tryz.underlying26 hi9 h90 h91 h92 rfl (by decide) _ _ _ rfl (HV3.out.alloc _) ⟨wr.heap.size, 0, none⟩ 2 2 [.string m, .string m] rfl rfl (cell_two_at _ _ _ _ _ rfl) (fun x hx => by simp at hx; subst hx; rfl) (by unfold maxLen; omega) (by omega) (by simp; omega) ?_; intro v3 w3 hown3 hgrow3 hnil3 hat3; obtain ⟨a3, c3, rfl, _⟩ := own_sl hown3; have HK3 : Hid (KO X w w3) := hide ((HK2.out.trans (KO.alloc _)).trans (KO.grown hgrow3 HXX.out.2.2)); have HT3 : Hid (∀ t, t ≠ 9 → KeepT t wr w3) := hide (fun t ht => (alloc_keepT t wr _).trans (grown_keepT (HV3.out.alloc _) hgrow3 ht)); have HWB3 : Hid (WBk w3 wb vss vbs (.slice la lv.length lc) vts lk) := hide ((HT3.out 36 (by decide) _ _ _ HWB2.out).trans HWB2.out); have HLS3 := hide (own_keepT HLS2.out (HT3.out 26 (by decide))); have HV4 := hide hown3; have HON : Hid (OldNew w (.slice va j vc) (.slice a3 (j + 2) c3)) := hide (OldNew.of hsz2 hat3); have c2 := HWB3.out.cell.2.2.1; have f2 := HWB3.out.fro 2; have hsz3 := HK3.out.size; clear hown3 hgrow3 hnil3 hat3 HT3 HWB2 HLS2 HK2 HV3)
        | (refine wpList_append_own_at _ rfl (.tmp 31) (.tmp 33) 33 rfl B 26 i26 (.slice none 0 0) 1 24 Tryz.underlying33 hi26 h260 h261 h262 rfl (by decide) _ _ _ rfl (HLS3.out.alloc _) ⟨w3.heap.size, 0, none⟩ 1 1 [.slice a3 (j + 2) c3] rfl rfl (cell_one_at _ _ _ _ rfl) (fun x hx => by simp at hx; subst hx; rfl) (by unfold maxLen; omega) (by omega) (by simp; omega) ?_; intro v5 w5 hown5 hgrow5 hnil5 hat5; obtain ⟨a5, c5, rfl, _⟩ := own_sl hown5; have HK5 : Hid (KO X w w5) := hide ((HK3.out.trans (KO.alloc _)).trans (KO.grown hgrow5 HXX.out.2.1)); have HT5 : Hid (∀ t, t ≠ 26 → KeepT t w3 w5) := hide (fun t ht => (alloc_keepT t w3 _).trans (grown_keepT (HLS3.out.alloc _) hgrow5 ht)); have HWB5 : Hid (WBk w5 wb vss vbs (.slice la lv.length lc) vts lk) := hide ((HT5.out 36 (by decide) _ _ _ HWB3.out).trans HWB3.out); have HV5 := hide (own_keepT HV4.out (HT5.out 9 (by decide))); have HLS5 := hide hown5; have HON5 : Hid (OldNew w (.slice la lv.length lc) (.slice a5 (lv.length + 1) c5)) := hide (OldNew.of hsz3 hat5); have c25 := HWB5.out.cell.2.2.1; have f25 := HWB5.out.fro 2; clear hown5 hgrow5 hnil5 hat5 HT5 HWB3 HLS3 HK3 HV4 c2 f2))
      have HWB6 : Hid (WBk (w5.setCell ⟨wb, 2, none⟩ (.slice a5 (lv.length + 1) c5)) wb vss vbs (.slice a5 (lv.length + 1) c5) vts lk) := hide (set_blk HWB5.out 2 _)
      have HK6 : Hid (KO X w (w5.setCell ⟨wb, 2, none⟩ (.slice a5 (lv.length + 1) c5))) := hide (HK5.out.trans (KO.set HXX.out.1))
      have HV6 := hide (own_keepT HV5.out (set_keepT (j := 2) (u := .slice a5 (lv.length + 1) c5) HWB5.out (by decide)))
      have HLS6 := hide (own_keepT HLS5.out (set_keepT (j := 2) (u := .slice a5 (lv.length + 1) c5) HWB5.out (by decide)))
      go_end0
      refine ⟨rfl, _, _, HWB6.out, HLS6.out, ?_, HK6.out, HON5.out, HON.out⟩
      have := HV6.out
      rwa [rep_two] at this
/-- The mark of the k-th tree. -/
def markN (k : Nat) : Nd := ⟨markB k, 0, ⟨#[]⟩⟩
theorem rep_setN {ns : List Nd} {j : Nat} {u : Nd} (hj : j < ns.length) : (List.replicate j u ++ ns.drop j).set j u = List.replicate (j + 1) u ++ ns.drop (j + 1) := by
  rw [List.set_append_right _ _ (by simp), List.length_replicate, Nat.sub_self]
  have hd : ns.drop j = ns[j] :: ns.drop (j + 1) := List.drop_eq_getElem_cons (by omega)
  rw [hd, List.set_cons_zero, List.replicate_succ', List.append_assoc]; rfl
theorem own_store3 {w : World} {B g cap j : Nat} {ns : List Nd} (x : Nd) (h : w.ownsRow B 42 3 (.slice (some ⟨g, 0, none⟩) ns.length cap) ns.length (flat3 ns)) (hj : j < ns.length) :
    (((w.setCell ⟨g, j * 3, none⟩ (.string x.path)).setCell ⟨g, j * 3 + 1, none⟩ (.int .i64 x.kind)).setCell ⟨g, j * 3 + 2, none⟩ (.string x.data)).ownsRow B 42 3 (.slice (some ⟨g, 0, none⟩) (ns.set j x).length cap) (ns.set j x).length (flat3 (ns.set j x)) := by
  rw [flat3_set ns j x hj, List.length_set]
  exact ((((h.stored (j * 3) (.string x.path)).1).stored (j * 3 + 1) (.int .i64 x.kind)).1.stored (j * 3 + 2) (.string x.data)).1
theorem six_at (w : World) (x : Nd) (n : Nat) (h : n = w.heap.size) : ∀ j u, (flat3 [x, x])[j]? = some u → (w.alloc (.cells #[.string x.path, .int .i64 x.kind, .string x.data, .string x.path, .int .i64 x.kind, .string x.data] 42)).cell? ((⟨n, 0, none⟩ : Addr).add j) = some u := by
  subst h
  intro j u hj
  have hk := block_new w (.cells #[.string x.path, .int .i64 x.kind, .string x.data, .string x.path, .int .i64 x.kind, .string x.data] 42)
  have hadd : (⟨w.heap.size, 0, none⟩ : Addr).add j = ⟨w.heap.size, j, none⟩ := by unfold Addr.add; split <;> simp_all
  rw [hadd]
  simp only [World.cell?, hk]
  match j, hj with
  | 0, hj => exact hj
  | 1, hj => exact hj
  | 2, hj => exact hj
  | 3, hj => exact hj
  | 4, hj => exact hj
  | 5, hj => exact hj
set_option maxRecDepth 20000 in
set_option maxHeartbeats 4000000 in
theorem nodes_any (B Bv wb : Nat) (vss vbs vls vts v : Value) (lk : Bool) (tv : List Value) (ns : List Nd) (w : World) (hwb : WBk w wb vss vbs vls vts lk) (hts : w.ownsRow B 25 1 vts tv.length tv) (hln : tv.length ≤ 1000000) (hv : w.ownsRow Bv 42 3 v ns.length (flat3 ns)) (hn : ns.length ≤ 2000000) (hBv : Bv ≤ w.heap.size) (hBw : B ≤ w.heap.size) :
    Calls Tryz.prog 21 #[.pointer (some ⟨wb, 0, none⟩), v] w fun e w' => e = .returned (.tuple #[]) ∧ ∃ v' vts', WBk w' wb vss vbs vls vts' lk ∧ w'.ownsRow B 25 1 vts' (tv.length + 1) (tv ++ [v']) ∧ w'.ownsRow Bv 42 3 v' (ns.length + 2) (flat3 (List.replicate (ns.length + 2) (markN tv.length))) ∧ KO (fun k => k = wb ∨ vts.ownBlock = some k ∨ v.ownBlock = some k) w w' ∧ OldNew w vts vts' ∧ OldNew w v v' := by
  obtain ⟨i42, hi42, h420, h421, h422⟩ := info_parts Tryz.info42
  obtain ⟨i25, hi25, h250, h251, h252⟩ := info_parts Tryz.info25
  obtain ⟨va, vc, rfl, _⟩ := own_sl hv
  obtain ⟨la, lc, rfl, _⟩ := own_sl hts
  have c3 := hwb.cell.2.2.2.1
  have cM := hide (mark_any tv.length hln w)
  generalize hX : (fun k => k = wb ∨ (Value.slice la tv.length lc).ownBlock = some k ∨ (Value.slice va ns.length vc).ownBlock = some k) = X
  have hXw : X wb := by rw [← hX]; exact .inl rfl
  have hXl : ∀ k, (Value.slice la tv.length lc).ownBlock = some k → X k := fun k h => by rw [← hX]; exact .inr (.inl h)
  have hXv : ∀ k, (Value.slice va ns.length vc).ownBlock = some k → X k := fun k h => by rw [← hX]; exact .inr (.inr h)
  have HXX := hide (And.intro hXw (And.intro hXl hXv))
  unfold markN
  generalize markB tv.length = m at cM ⊢
  have HLT := hide (fun g (hg : (Value.slice va ns.length vc).ownBlock = some g) => (hv.lt g hg).2)
  have HWB := hide hwb
  have HTS := hide hts
  have HV := hide hv
  clear hwb hts hv hX hXw hXl hXv
  go_enter Tryz.func21, Tryz.ntmps21
  go_wp2_with fail
  refine cM.out.mono ?_
  rintro e w1 ⟨rfl, hb1⟩
  have hb2 := hb1.trans (((Below.refl _ w1).alloc (Nat.le_refl _) (.cells #[.string m, .int .i64 0, .string ⟨#[]⟩] 42)).mono hb1.size)
  have HWB1 : Hid (WBk (w1.alloc (.cells #[.string m, .int .i64 0, .string ⟨#[]⟩] 42)) wb vss vbs vls (.slice la tv.length lc) lk) := hide ((hb2.block _ (lt_of_block HWB.out)).trans HWB.out)
  have HTS1 := hide (own_below HTS.out hb2)
  have HV1 := hide (own_below HV.out hb2)
  have HK1 : Hid (KO X w (w1.alloc (.cells #[.string m, .int .i64 0, .string ⟨#[]⟩] 42))) := hide (KO.of hb2)
  have HMB1 := hide (block_new w1 (.cells #[.string m, .int .i64 0, .string ⟨#[]⟩] 42))
  have hw1 := hb1.size
  clear hb1 hb2 cM HWB HTS HV c3
  go_wp2
  generalize w1.alloc (.cells #[.string m, .int .i64 0, .string ⟨#[]⟩] 42) = W1 at HWB1 HTS1 HV1 HK1 HMB1 ⊢
  generalize w1.heap.size = mb at HMB1 hw1 ⊢
  go_loopw [16] (fun iv w2 => ∃ j : Nat, j ≤ ns.length ∧ iv = .int .i64 j ∧ Hid (w2.ownsRow Bv 42 3 (.slice va ns.length vc) ns.length (flat3 (List.replicate j ⟨m, 0, ⟨#[]⟩⟩ ++ ns.drop j))) ∧ Hid (KO X w w2) ∧ Hid (WBk w2 wb vss vbs vls (.slice la tv.length lc) lk) ∧ Hid (w2.ownsRow B 25 1 (.slice la tv.length lc) tv.length tv) ∧ Hid (w2.heap[mb]? = some (.cells #[.string m, .int .i64 0, .string ⟨#[]⟩] 42 (0, 0)))) (fun iv _ => ns.length - (intOf iv).toNat)
  case atStart => exact ⟨0, by omega, rfl, HV1, HK1, HWB1, HTS1, HMB1⟩
  case round =>
    obtain ⟨j, hj, rfl, HV2, HK2, HWB2, HTS2, HMB2⟩ := hrel
    clear HV1 HK1 HWB1 HTS1 HMB1
    have m0 : wr.cell? ⟨mb, 0, none⟩ = some (.string m) := by simp [World.cell?, HMB2.out]
    have m1 : wr.cell? ⟨mb, 1, none⟩ = some (.int .i64 0) := by simp [World.cell?, HMB2.out]
    have m2 : wr.cell? ⟨mb, 2, none⟩ = some (.string ⟨#[]⟩) := by simp [World.cell?, HMB2.out]
    by_cases hlt : j < ns.length
    · have hltz : (j : Int) < ns.length := by omega
      obtain ⟨g, cap, hga, _⟩ := own_form HV2.out (by omega)
      injection hga with hga _ hcc
      subst hga
      subst hcc
      have hgm : g ≠ mb := by have := HLT.out g rfl; omega
      have hrl : (List.replicate j (⟨m, 0, ⟨#[]⟩⟩ : Nd) ++ ns.drop j).length = ns.length := by simp; omega
      have cells : ∀ i, i < ns.length * 3 → ∃ u, wr.cell? ⟨g, i, none⟩ = some u := fun i hi => by
        rw [HV2.out.cellAt i hi]
        exact ⟨_, List.getElem?_eq_getElem (by have := HV2.out.1; omega)⟩
      obtain ⟨u0, c0⟩ := cells (j * 3) (by omega)
      obtain ⟨u1, c1⟩ := cells (j * 3 + 1) (by omega)
      obtain ⟨u2, c2⟩ := cells (j * 3 + 2) (by omega)
      have f0 := HV2.out.frozenAt (j * 3)
      have f1 := HV2.out.frozenAt (j * 3 + 1)
      have f2 := HV2.out.frozenAt (j * 3 + 2)
      have hst : Hid ((((wr.setCell ⟨g, j * 3, none⟩ (.string m)).setCell ⟨g, j * 3 + 1, none⟩ (.int .i64 0)).setCell ⟨g, j * 3 + 2, none⟩ (.string ⟨#[]⟩)).ownsRow Bv 42 3 (.slice (some ⟨g, 0, none⟩) ns.length vc) ns.length (flat3 (List.replicate (j + 1) ⟨m, 0, ⟨#[]⟩⟩ ++ ns.drop (j + 1)))) := hide (by
        have h0 := HV2.out
        have := own_store3 (ns := List.replicate j (⟨m, 0, ⟨#[]⟩⟩ : Nd) ++ ns.drop j) (j := j) ⟨m, 0, ⟨#[]⟩⟩ (by rw [hrl]; exact h0) (by omega)
        rwa [List.length_set, hrl, rep_setN hlt] at this)
      obtain ⟨cur, hcur⟩ := own_block HV2.out rfl
      have HT : Hid (∀ t, t ≠ 42 → KeepT t wr (((wr.setCell ⟨g, j * 3, none⟩ (.string m)).setCell ⟨g, j * 3 + 1, none⟩ (.int .i64 0)).setCell ⟨g, j * 3 + 2, none⟩ (.string ⟨#[]⟩))) := hide fun t ht => ((set_keepT hcur ht).trans (set_keepT (set_blk hcur _ _) ht)).trans (set_keepT (set_blk (set_blk hcur _ _) _ _) ht)
      have HK3 : Hid (KO X w (((wr.setCell ⟨g, j * 3, none⟩ (.string m)).setCell ⟨g, j * 3 + 1, none⟩ (.int .i64 0)).setCell ⟨g, j * 3 + 2, none⟩ (.string ⟨#[]⟩))) := hide (((HK2.out.trans (KO.set (HXX.out.2.2 g rfl))).trans (KO.set (HXX.out.2.2 g rfl))).trans (KO.set (HXX.out.2.2 g rfl)))
      have HWB3 : Hid (WBk (((wr.setCell ⟨g, j * 3, none⟩ (.string m)).setCell ⟨g, j * 3 + 1, none⟩ (.int .i64 0)).setCell ⟨g, j * 3 + 2, none⟩ (.string ⟨#[]⟩)) wb vss vbs vls (.slice la tv.length lc) lk) := hide ((HT.out 36 (by decide) _ _ _ HWB2.out).trans HWB2.out)
      have HTS3 := hide (own_keepT HTS2.out (HT.out 25 (by decide)))
      have HMB3 : Hid ((((wr.setCell ⟨g, j * 3, none⟩ (.string m)).setCell ⟨g, j * 3 + 1, none⟩ (.int .i64 0)).setCell ⟨g, j * 3 + 2, none⟩ (.string ⟨#[]⟩)).heap[mb]? = some (.cells #[.string m, .int .i64 0, .string ⟨#[]⟩] 42 (0, 0))) := hide (by
        rw [Below.heap_setCell _ _ _ _ (Ne.symm hgm), Below.heap_setCell _ _ _ _ (Ne.symm hgm), Below.heap_setCell _ _ _ _ (Ne.symm hgm)]; exact HMB2.out)
      clear hcur HT HV2 HK2 HWB2 HTS2 HMB2 cells hrl
      go_wp2
      go_roundw
      case rel => exact ⟨j + 1, by omega, by go_num, hst, HK3, HWB3, HTS3, HMB3⟩
      case measure => simp [intOf]; omega
    · obtain rfl : j = ns.length := by omega
      have hltz : ¬ ((ns.length : Nat) : Int) < ns.length := by omega
      have hv2 := HV2.out
      rw [List.drop_eq_nil_of_le (Nat.le_refl _), List.append_nil] at hv2
      have HV3 := hide hv2
      have hsz2 := HK2.out.size
      clear hv2 HV2
      go_wp2_with (at_builtin; first
        | (refine wpList_append_own_at _ rfl (.tmp 24) (.tmp 27) 25 rfl Bv 42 i42 (.agg #[.string ⟨#[]⟩, .int .i64 0, .string ⟨#[]⟩]) 3 40 Tryz.underlying25 hi42 h420 h421 h422 rfl (by decide) _ _ _ rfl (HV3.out.alloc _) ⟨wr.heap.size, 0, none⟩ 2 2 (flat3 [⟨m, 0, ⟨#[]⟩⟩, ⟨m, 0, ⟨#[]⟩⟩]) rfl rfl (six_at _ ⟨m, 0, ⟨#[]⟩⟩ _ rfl) (flat3_one _) (by unfold maxLen; omega) (by omega) (by simp; omega) ?_; intro v3 w3 hown3 hgrow3 hnil3 hat3; obtain ⟨a3, c3, rfl, _⟩ := own_sl hown3; have HK3 : Hid (KO X w w3) := hide ((HK2.out.trans (KO.alloc _)).trans (KO.grown hgrow3 HXX.out.2.2)); have HT3 : Hid (∀ t, t ≠ 42 → KeepT t wr w3) := hide (fun t ht => (alloc_keepT t wr _).trans (grown_keepT (HV3.out.alloc _) hgrow3 ht)); have HWB3 : Hid (WBk w3 wb vss vbs vls (.slice la tv.length lc) lk) := hide ((HT3.out 36 (by decide) _ _ _ HWB2.out).trans HWB2.out); have HTS3 := hide (own_keepT HTS2.out (HT3.out 25 (by decide))); have HV4 := hide hown3; have HON : Hid (OldNew w (.slice va ns.length vc) (.slice a3 (ns.length + 2) c3)) := hide (OldNew.of hsz2 hat3); have c3' := HWB3.out.cell.2.2.2.1; have f3 := HWB3.out.fro 3; have hsz3 := HK3.out.size; clear hown3 hgrow3 hnil3 hat3 HT3 HWB2 HTS2 HK2 HV3 HMB2 m0 m1 m2)
        | (refine wpList_append_own_at _ rfl (.tmp 32) (.tmp 34) 34 rfl B 25 i25 (.slice none 0 0) 1 24 Tryz.underlying34 hi25 h250 h251 h252 rfl (by decide) _ _ _ rfl (HTS3.out.alloc _) ⟨w3.heap.size, 0, none⟩ 1 1 [.slice a3 (ns.length + 2) c3] rfl rfl (cell_one_at _ _ _ _ rfl) (fun x hx => by simp at hx; subst hx; rfl) (by unfold maxLen; omega) (by omega) (by simp; omega) ?_; intro v5 w5 hown5 hgrow5 hnil5 hat5; obtain ⟨a5, c5, rfl, _⟩ := own_sl hown5; have HK5 : Hid (KO X w w5) := hide ((HK3.out.trans (KO.alloc _)).trans (KO.grown hgrow5 HXX.out.2.1)); have HT5 : Hid (∀ t, t ≠ 25 → KeepT t w3 w5) := hide (fun t ht => (alloc_keepT t w3 _).trans (grown_keepT (HTS3.out.alloc _) hgrow5 ht)); have HWB5 : Hid (WBk w5 wb vss vbs vls (.slice la tv.length lc) lk) := hide ((HT5.out 36 (by decide) _ _ _ HWB3.out).trans HWB3.out); have HV5 := hide (own_keepT HV4.out (HT5.out 42 (by decide))); have HTS5 := hide hown5; have HON5 : Hid (OldNew w (.slice la tv.length lc) (.slice a5 (tv.length + 1) c5)) := hide (OldNew.of hsz3 hat5); have c35 := HWB5.out.cell.2.2.2.1; have f35 := HWB5.out.fro 3; clear hown5 hgrow5 hnil5 hat5 HT5 HWB3 HTS3 HK3 HV4 c3' f3))
      have HWB6 : Hid (WBk (w5.setCell ⟨wb, 3, none⟩ (.slice a5 (tv.length + 1) c5)) wb vss vbs vls (.slice a5 (tv.length + 1) c5) lk) := hide (set_blk HWB5.out 3 _)
      have HK6 : Hid (KO X w (w5.setCell ⟨wb, 3, none⟩ (.slice a5 (tv.length + 1) c5))) := hide (HK5.out.trans (KO.set HXX.out.1))
      have HV6 := hide (own_keepT HV5.out (set_keepT (j := 3) (u := .slice a5 (tv.length + 1) c5) HWB5.out (by decide)))
      have HTS6 := hide (own_keepT HTS5.out (set_keepT (j := 3) (u := .slice a5 (tv.length + 1) c5) HWB5.out (by decide)))
      go_end0
      refine ⟨rfl, _, _, HWB6.out, HTS6.out, ?_, HK6.out, HON5.out, HON.out⟩
      have := HV6.out
      rwa [← flat3_append, rep_two] at this
end Go.Proofs.YticfcjmlphhpgaaGreatDoor
