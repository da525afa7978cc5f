/-
  WALKS, 1: the leaves of package tree and package wire.
-/
import Derived.Test.YtpbjdfobbnpjfaaDoorRows
import Derived.Test.YtpbjdfobbnpjfaaDoorM1
import Derived.Test.YtpbjdfobbnpjfaaDoorShelf
import Derived.WalkKit
import Derived.WalkSpells
import Derived.WalkLawsBesides
import Derived.Laws.IdiomStrings
import Derived.Lib.AppendStr
import Derived.Lib.OthersKept
import Derived.BigQuiet
import Derived.Deep.QuietTactic
namespace Go.Proofs.YtpbjdfobbnpjfaaDoor
open Go.RowKit

theorem hide {p : Prop} (h : p) : Hid p := h

set_option maxRecDepth 20000 in
set_option maxHeartbeats 400000 in
theorem kindWord_any (k : Int) (w : World) : Calls Tryd.prog 25 #[.int .i64 k] w fun e w' => e = .returned (.string (wordOf k)) ∧ w' = w := by
  by_cases h3 : k = 3
  · subst h3
    go_enter Tryd.func25, Tryd.ntmps25
    go_wp2
    go_ret
    exact ⟨rfl, rfl⟩
  · have h3b : (k == 3) = false := by simp [h3]
    by_cases h4 : k = 4
    · subst h4
      go_enter Tryd.func25, Tryd.ntmps25
      go_wp2
      go_ret
      exact ⟨rfl, rfl⟩
    · have h4b : (k == 4) = false := by simp [h4]
      have hw : wordOf k = ⟨#[102, 105, 108, 101]⟩ := by simp [wordOf, h3, h4]
      rw [hw]
      clear h3 h4 hw
      go_enter Tryd.func25, Tryd.ntmps25
      go_wp2
      go_ret
      exact ⟨rfl, rfl⟩

set_option maxRecDepth 20000 in
set_option maxHeartbeats 400000 in
theorem prefixIn_any (s : ByteArray) (w : World) (hs : s.size ≤ 1000000000) : Calls Tryd.prog 27 #[.string s] w fun e w' => e = .returned (.string (prefixIn s)) ∧ w' = w := by
  by_cases h : s.data.toList = []
  · have hp : prefixIn s = ⟨#[]⟩ := by simp only [prefixIn, if_pos h]
    have he : s.toList.isEmpty = true := by rw [ByteArray.toList_eq, h]; rfl
    rw [hp]
    clear hp h
    go_enter Tryd.func27, Tryd.ntmps27
    go_wp2
    go_ret
    exact ⟨rfl, rfl⟩
  · have hp : prefixIn s = s ++ ⟨#[47]⟩ := by simp only [prefixIn, if_neg h]
    have he : s.toList.isEmpty = false := by rw [ByteArray.toList_eq]; cases hh : s.data.toList with | nil => exact absurd hh h | cons a t => rfl
    rw [hp]
    clear hp h
    go_enter Tryd.func27, Tryd.ntmps27
    go_wp2
    go_ret
    exact ⟨rfl, rfl⟩

set_option maxRecDepth 20000 in
set_option maxHeartbeats 400000 in
theorem lastIndexS_any (s : ByteArray) (w : World) (hs : s.size ≤ 1000000000) : Calls Tryd.prog 60 #[.string s, .int .u8 47] w fun e w' => e = .returned (.int .i64 ((cut s : Int) - 1)) ∧ w' = w := by
  obtain ⟨c, hc⟩ : ∃ c, cut s = c := ⟨_, rfl⟩
  rw [hc]
  have HC : Hid (cut s = c) := hc
  clear hc
  go_enter Tryd.func60, Tryd.ntmps60
  go_wp2
  go_loop [5] (fun i => ∃ j : Nat, j ≤ s.size ∧ i = .int .i64 ((j : Int) - 1) ∧ Hid (∀ i (hi : i < s.size), j ≤ i → s[i].toNat ≠ 47)) (fun i => (intOf i + 1).toNat)
  case atStart => exact ⟨s.size, Nat.le_refl _, rfl, fun i hi h => by omega⟩
  case round =>
    obtain ⟨j, hj, rfl, hr⟩ := hrel
    by_cases h0 : j = 0
    · have hcz : c = 0 := by rw [← HC.out]; exact cut_none s (fun i hi => hr.out i hi (by omega))
      subst h0
      subst hcz
      go_wp2
      go_ret
      exact ⟨rfl, rfl⟩
    · obtain ⟨j, rfl⟩ : ∃ q, j = q + 1 := ⟨j - 1, by omega⟩
      rw [show ((j + 1 : Nat) : Int) - 1 = (j : Int) by omega]
      have hlt : j < s.size := by omega
      by_cases h47 : s[j].toNat = 47
      · have hcz : c = j + 1 := by rw [← HC.out]; exact cut_of s j hlt h47 (fun i hi h => hr.out i hi (by omega))
        have h47b : ((s[j].toNat : Int) == 47) = true := by simp [h47]
        subst hcz
        clear h47
        go_wp2
        go_ret
        exact ⟨by simp, rfl⟩
      · have h47b : ((s[j].toNat : Int) == 47) = false := by simp; omega
        have hr' : Hid (∀ i (hi : i < s.size), j ≤ i → s[i].toNat ≠ 47) := fun i hi h => by
          by_cases e : i = j
          · subst e; exact h47
          · exact hr.out i hi (by omega)
        clear h47 hr
        go_wp2
        go_round
        case rel => exact ⟨j, by omega, rfl, hr'⟩
        case measure => simp [intOf]

set_option maxRecDepth 20000 in
set_option maxHeartbeats 400000 in
theorem lastIndex_any (s : ByteArray) (w : World) (hs : s.size ≤ 1000000000) : Calls Tryd.prog 50 #[.string s, .int .u8 47] w fun e w' => e = .returned (.int .i64 ((cut s : Int) - 1)) ∧ w' = w := by
  go_enter Tryd.func50, Tryd.ntmps50
  go_wp2_with fail
  refine (lastIndexS_any s w hs).mono ?_
  rintro e w1 ⟨rfl, rfl⟩
  go_wp2
  go_ret
  exact ⟨rfl, rfl⟩

set_option maxRecDepth 20000 in
set_option maxHeartbeats 400000 in
theorem split_any (s : ByteArray) (w : World) (hs : s.size ≤ 1000000000) : Calls Tryd.prog 41 #[.string s] w fun e w' => e = .returned (.tuple #[.string (pre s), .string (nam s)]) ∧ ∃ n, w' = w.drewN n := by
  have hc := cut_le s
  obtain ⟨c, hcc⟩ : ∃ c, cut s = c := ⟨_, rfl⟩
  have hp : pre s = s.extract 0 c := by simp only [pre, hcc]
  have hn : nam s = s.extract c s.size := by simp only [nam, hcc]
  rw [hp, hn]
  rw [hcc] at hc
  have hl := lastIndex_any s w hs
  rw [hcc] at hl
  clear hp hn hcc
  have H := hide hl
  clear hl
  go_enter Tryd.func41, Tryd.ntmps41
  go_wp2_with fail
  refine H.out.mono ?_
  rintro e w1 ⟨rfl, rfl⟩
  go_wp2
  go_quiet (fail)
  go_wp2
  go_ret2
  exact ⟨rfl, _, rfl⟩

theorem indexByte_zero (l : List UInt8) : (Lib.indexByte l 0 < 0) ↔ ¬ (0 : UInt8) ∈ l := by
  have hge := Lib.indexByte_ge l 0
  constructor
  · intro h hm
    have e : Lib.indexByte l 0 = -1 := by omega
    obtain ⟨k, hk, hv⟩ := List.getElem_of_mem hm
    exact Lib.indexByte_none e k (by rw [List.getElem?_eq_getElem hk, hv])
  · intro h
    by_cases hlt : Lib.indexByte l 0 < 0
    · exact hlt
    · obtain ⟨o, ho⟩ := Int.eq_ofNat_of_zero_le (show 0 ≤ Lib.indexByte l 0 by omega)
      exact absurd (List.mem_of_getElem? (Lib.indexByte_some ho).1) h

set_option maxRecDepth 20000 in
set_option maxHeartbeats 400000 in
theorem dataFits_any (k : Int) (d : ByteArray) (w : World) (hs : d.size ≤ 1000000000) : Calls Tryd.prog 23 #[.int .i64 k, .string d] w fun e w' => e = .returned (.bool (fits k d.data.toList)) ∧ w' = w := by
  have hl : d.data.toList.length = d.size := by simp
  by_cases h3 : k = 3
  · subst h3
    by_cases he : d.data.toList = []
    · have hf : fits 3 d.data.toList = false := by simp [fits, he]
      have hee : d.toList.isEmpty = true := by rw [ByteArray.toList_eq, he]; rfl
      rw [hf]
      clear hf he hl
      go_enter Tryd.func23, Tryd.ntmps23
      go_wp2
      go_ret
      exact ⟨rfl, rfl⟩
    · have hee : d.toList.isEmpty = false := by rw [ByteArray.toList_eq]; cases hh : d.data.toList with | nil => exact absurd hh he | cons a t => rfl
      by_cases hb : d.size ≤ 100
      · have hi := Tryd.strings_IndexByte d 0 w
        have hf : fits 3 d.data.toList = decide (Lib.indexByte d.data.toList 0 < 0) := by
          have hd : decide (Lib.indexByte d.data.toList 0 < 0) = decide (¬ (0 : UInt8) ∈ d.data.toList) := decide_eq_decide.2 (indexByte_zero _)
          rw [hd]
          simp [fits, he, hb]
        rw [hf]
        have hbz : (d.size : Int) ≤ 100 := by omega
        clear hf he hl hb
        have HI := hide hi
        clear hi
        go_enter Tryd.func23, Tryd.ntmps23
        go_wp2_with fail
        refine HI.out.mono ?_
        rintro e w1 ⟨rfl, rfl⟩
        go_wp2
        go_ret
        exact ⟨rfl, rfl⟩
      · have hf : fits 3 d.data.toList = false := by simp [fits, hb]
        have hbz : ¬ (d.size : Int) ≤ 100 := by omega
        rw [hf]
        clear hf he hl hb
        go_enter Tryd.func23, Tryd.ntmps23
        go_wp2
        go_ret
        exact ⟨rfl, rfl⟩
  · have h3b : (k == 3) = false := by simp [h3]
    by_cases h1 : k = 1
    · subst h1
      have hf : fits 1 d.data.toList = decide ((d.size : Int) ≤ 100) := by simp [fits]; omega
      rw [hf]
      clear hf hl h3
      go_enter Tryd.func23, Tryd.ntmps23
      go_wp2
      go_ret
      exact ⟨rfl, rfl⟩
    · have h1b : (k == 1) = false := by simp [h1]
      by_cases h2 : k = 2
      · subst h2
        have hf : fits 2 d.data.toList = decide ((d.size : Int) ≤ 100) := by simp [fits]; omega
        rw [hf]
        clear hf hl h3
        go_enter Tryd.func23, Tryd.ntmps23
        go_wp2
        go_ret
        exact ⟨rfl, rfl⟩
      · have h2b : (k == 2) = false := by simp [h2]
        by_cases h4 : k = 4
        · subst h4
          have hf : fits 4 d.data.toList = d.toList.isEmpty := by rw [ByteArray.toList_eq]; cases hh : d.data.toList <;> simp [fits]
          rw [hf]
          clear hf hl h3 h1 h2
          go_enter Tryd.func23, Tryd.ntmps23
          go_wp2
          go_ret
          exact ⟨rfl, rfl⟩
        · have h4b : (k == 4) = false := by simp [h4]
          have hf : fits k d.data.toList = false := by simp [fits, h1, h2, h3, h4]
          rw [hf]
          clear hf hl h3 h1 h2 h4
          go_enter Tryd.func23, Tryd.ntmps23
          go_wp2
          go_ret
          exact ⟨rfl, rfl⟩

/-- The frame of what writes one row of bytes from 'base' on: nothing below 'base' has turned, nor any block that is no row of bytes. -/
structure K5 (base : Nat) (w w' : World) : Prop where
  bel : Below base w w'
  oth : Lib.OthersKept 5 none w w'
theorem K5.refl (base : Nat) (w : World) : K5 base w w := ⟨Below.refl _ _, Lib.OthersKept.refl _ _ _⟩
theorem K5.trans {base : Nat} {a b c : World} (h : K5 base a b) (k : K5 base b c) : K5 base a c := ⟨h.bel.trans k.bel, h.oth.trans k.oth⟩
theorem K5.alloc {base : Nat} {a w : World} (h : K5 base a w) (hB : base ≤ w.heap.size) (o : Obj) : K5 base a (w.alloc o) := ⟨h.bel.alloc hB o, h.oth.alloc o⟩
theorem K5.drew {base : Nat} {a w : World} (h : K5 base a w) : K5 base a w.drew := ⟨h.bel.drew, h.oth.drew⟩
theorem K5.drewN {base : Nat} {a w : World} (h : K5 base a w) : ∀ q, K5 base a (w.drewN q)
  | 0 => h
  | q + 1 => (K5.drewN h q).drew
theorem own_kind {w : World} {B : Nat} {e : TypeId} {s : Nat} {v : Value} {n : Nat} {xs : List Value} (h : w.ownsRow B e s v n xs) : ∀ g, v.ownBlock = some g → ∃ c fz, w.heap[g]? = some (.cells c e fz) := by
  intro g hg
  rcases h.2 with ⟨rfl, _⟩ | ⟨g', cap, cur, rfl, _, hh, _⟩
  · simp [Value.ownBlock] at hg
  · simp only [Value.ownBlock, Option.some.injEq] at hg
    subst hg
    exact ⟨_, _, hh⟩
theorem K5.grown {base : Nat} {a w w' : World} {v : Value} {n : Nat} {xs : List Value} (h : K5 base a w) (hown : w.ownsRow base 5 1 v n xs) (hg : w.grownBy w' v.ownBlock) (hB : base ≤ w.heap.size) : K5 base a w' :=
  ⟨h.bel.grown hg hB (fun k hk => (hown.lt k hk).1), h.oth.grown hg (own_kind hown)⟩
theorem K5.size {base : Nat} {w w' : World} (h : K5 base w w') : w.heap.size ≤ w'.heap.size := h.bel.size
theorem K5.block {base : Nat} {w w' : World} (h : K5 base w w') {b : Nat} {c : Array Value} {t : TypeId} {fz : Nat × Nat} (ht : t ≠ 5) (hb : w.heap[b]? = some (.cells c t fz)) : w'.heap[b]? = some (.cells c t fz) :=
  h.oth b _ hb (by simp) (fun c' fz' e => by cases e; exact ht rfl)

theorem Tryd.info5 : (Tryd.prog.info? 5).map (fun i => (i.zero, i.size, i.bytes)) = some (some (.int .u8 0), 1, 1) := by kernel_rfl

set_option maxRecDepth 20000 in
set_option maxHeartbeats 400000 in
theorem appendNumber_any (base : Nat) (v : Value) (n : Nat) (xs : List Value) (H : Int) (w : World) (h0 : 0 ≤ H) (h1 : H < 18446744073709551616)
    (hown : w.ownsRow base 5 1 v n xs) (hbase : base ≤ w.heap.size) (hn : n + 8 ≤ 140737488355328) :
    Calls Tryd.prog 28 #[v, .int .u64 H] w fun e w' => ∃ v', e = .returned v' ∧ w'.ownsRow base 5 1 v' (n + 8) (xs ++ cellsOf (le H 8)) ∧ K5 base w w' := by
  obtain ⟨i0, hi, hz0, hz1, hz2⟩ := info_parts Tryd.info5
  go_enter Tryd.func28, Tryd.ntmps28
  go_wp2
  go_loopw [0, 1, 5] (fun o h i w1 => ∃ k : Nat, k ≤ 8 ∧ i = .int .i64 k ∧ h = .int .u64 (H / 2 ^ (8 * k)) ∧ w1.ownsRow base 5 1 o (n + k) (xs ++ cellsOf (le H k)) ∧ K5 base w w1) (fun _ _ i _ => 8 - (intOf i).toNat)
  case atStart => exact ⟨0, by omega, rfl, by simp, by simpa [le, cellsOf] using hown, K5.refl _ _⟩
  case round =>
    rename_i o h i
    obtain ⟨k, hk, rfl, rfl, hown1, hbel⟩ := hrel
    have hr := shift_range H k h0 h1
    by_cases hlt : k < 8
    · go_wp2_with (at_builtin; refine wpList_append_own _ rfl (.tmp 7) (.tmp 10) 40 rfl base 5 i0 (.int .u8 0) 1 1 Tryd.underlying40 hi hz0 hz1 hz2 rfl (by decide) _ _ _ rfl (hown1.alloc _) ⟨wr.heap.size, 0, none⟩ 1 1 [.int .u8 (H / 2 ^ (8 * k) % 256)] rfl rfl (cell_one_new _ _ _) (fun x hx => by simp at hx; subst hx; rfl) (by unfold maxLen; omega) (by omega) (by simp; have := hbel.size; omega) ?_; intro v' w3 hown3 hgrow3 hnil3)
      go_roundw
      case rel =>
        refine ⟨k + 1, by omega, by go_num, ?_, ?_, ?_⟩
        · rw [← shift_succ]
        · rw [le_succ, cellsOf_append, ← List.append_assoc]
          have e : cellsOf [byteAt H k] = [.int .u8 (H / 2 ^ (8 * k) % 256)] := by simp [cellsOf, byteAt_val]
          rw [e]; exact hown3
        · exact (hbel.alloc (by have := hbel.size; omega) _).grown (hown1.alloc _) hgrow3 (by simp; have := hbel.size; omega)
      case measure => simp [intOf]; omega
    · obtain rfl : k = 8 := by omega
      go_wp2
      go_ret
      exact ⟨_, rfl, hown1, hbel⟩

theorem zeros_succ (k : Nat) : cellsOf (List.replicate (k + 1) 0) = cellsOf (List.replicate k 0) ++ [.int .u8 0] := by
  rw [List.replicate_succ', cellsOf_append]; rfl
theorem encs_take (ss : List ByteArray) (k : Nat) (h : k < ss.length) : encs ((ss.take (k + 1)).map (·.data.toList)) = encs ((ss.take k).map (·.data.toList)) ++ enc ss[k].data.toList := by
  rw [List.take_succ_eq_append_getElem h, List.map_append, encs_append]; simp [encs]
theorem encs_take_le (ss : List ByteArray) (k : Nat) : (encs ((ss.take k).map (·.data.toList))).length ≤ (encs (ss.map (·.data.toList))).length := by
  conv => rhs; rw [← List.take_append_drop k ss, List.map_append, encs_append]
  simp

set_option maxRecDepth 20000 in
set_option maxHeartbeats 400000 in
theorem filling_any (n : Nat) (w : World) (hn : n ≤ 1000000000000) : Calls Tryd.prog 29 #[.int .i64 (n : Int)] w fun e w' => e = .returned (.int .i64 (padLen n : Nat)) ∧ w' = w := by
  have hp : (8 - (n : Int) % 8) % 8 = ((padLen n : Nat) : Int) := by unfold padLen; omega
  rw [← hp]
  clear hp
  go_enter Tryd.func29, Tryd.ntmps29
  go_wp2
  go_ret
  exact ⟨rfl, rfl⟩

set_option maxRecDepth 20000 in
set_option maxHeartbeats 1000000 in
theorem Append_any (base : Nat) (v : Value) (n : Nat) (xs : List Value) (b : Nat) (ss : List ByteArray) (w : World)
    (hown : w.ownsRow base 5 1 v n xs) (hbase : base ≤ w.heap.size) (hb : w.heap[b]? = some (.cells (ss.map Value.string).toArray 9 (0, 0)))
    (hn : n + (encs (ss.map (·.data.toList))).length ≤ 1000000000000) (hss : ss.length ≤ 1000) :
    Calls Tryd.prog 19 #[v, .slice (some ⟨b, 0, none⟩) ss.length ss.length] w fun e w' => ∃ v', e = .returned v' ∧
      w'.ownsRow base 5 1 v' (n + (encs (ss.map (·.data.toList))).length) (xs ++ cellsOf (encs (ss.map (·.data.toList)))) ∧ K5 base w w' := by
  obtain ⟨i0, hi, hz0, hz1, hz2⟩ := info_parts Tryd.info5
  obtain ⟨E, hE⟩ : ∃ E, encs (ss.map (·.data.toList)) = E := ⟨_, rfl⟩
  rw [hE] at hn ⊢
  have HE := hide hE
  clear hE
  go_enter Tryd.func19, Tryd.ntmps19
  go_wp2
  go_loopw [0, 6, 9] (fun o _ i w1 => ∃ k : Nat, k ≤ ss.length ∧ i = .int .i64 k ∧ w1.ownsRow base 5 1 o (n + (encs ((ss.take k).map (·.data.toList))).length) (xs ++ cellsOf (encs ((ss.take k).map (·.data.toList)))) ∧ K5 base w w1) (fun _ _ i _ => ss.length - (intOf i).toNat)
  case atStart => exact ⟨0, by omega, rfl, by simpa [encs, cellsOf] using hown, K5.refl _ _⟩
  case round =>
    rename_i o _ i
    obtain ⟨k, hk, rfl, hown1, hk5⟩ := hrel
    by_cases hlt : k < ss.length
    · have hbr := hk5.block (by decide) hb
      have hcell : wr.cell? ⟨b, k, none⟩ = some (.string ss[k]) := by
        simp [World.cell?, hbr, hlt]
      have hle := encs_take_le ss (k + 1)
      rw [HE.out] at hle
      have het := encs_take ss k hlt
      have hlen : (encs ((ss.take (k + 1)).map (·.data.toList))).length = (encs ((ss.take k).map (·.data.toList))).length + (enc ss[k].data.toList).length := by rw [het, List.length_append]
      rw [hlen] at hle
      generalize hm : (encs ((ss.take k).map (·.data.toList))).length = m at hown1 hle hlen
      generalize hs : ss[k] = s at hcell hle hlen het
      have hel : (enc s.data.toList).length = 8 + s.size + padLen s.size := by simp [enc, le_length]; omega
      have hpl : padLen s.size < 8 := by unfold padLen; omega
      have hsz := hk5.size
      clear hs hm
      have HET := hide het
      have HLEN := hide hlen
      clear het hlen
      have hw64 : IntKind.u64.wrap (s.size : Int) = (s.size : Int) := by rw [IntKind.wrap_u64]; omega
      go_wp2_with fail
      refine (appendNumber_any base _ _ _ (s.size : Int) wr (by omega) (by omega) hown1 (by omega) (by omega)).mono ?_
      rintro e w2 ⟨v2, rfl, hown2, hk2⟩
      have hsz2 := hk2.size
      go_wp2_with (at_builtin; refine Lib.wpList_append_own_string _ rfl (.tmp 18) (.tmp 19) 40 9 rfl base 5 i0 Tryd.underlying40 Tryd.underlying9 hi hz0 hz1 hz2 v2 _ _ rfl hown2 s rfl (by unfold maxLen; omega) (by omega) (by omega) ?_; intro v3 w3 hown3 hgrow3 hnil3)
      have hk3 : K5 base w w3 := (hk5.trans hk2).grown hown2 hgrow3 (by omega)
      have hsz3 := hgrow3.size
      clear hgrow3 hnil3 hown2 hk2 hown hb hbr hcell
      obtain ⟨p, hp⟩ : ∃ p, padLen s.size = p := ⟨_, rfl⟩
      refine (filling_any s.size w3 (by omega)).mono ?_
      rintro e w4 ⟨rfl, rfl⟩
      rw [hp] at hel hpl ⊢
      have HP := hide hp
      clear hp
      go_wp2
      go_loopw [0, 24] (fun o i w1 => ∃ q : Nat, q ≤ p ∧ i = .int .i64 q ∧ w1.ownsRow base 5 1 o (n + m + 8 + s.size + q) (xs ++ cellsOf (encs ((ss.take k).map (·.data.toList))) ++ cellsOf (le (s.size : Int) 8) ++ Lib.strCells s ++ cellsOf (List.replicate q 0)) ∧ K5 base w w1) (fun _ i _ => p - (intOf i).toNat)
      case atStart => exact ⟨0, by omega, rfl, by simpa [cellsOf] using hown3, hk3⟩
      case round =>
        rename_i o2 i2
        obtain ⟨q, hq, rfl, hown4, hk4⟩ := hrel
        have hsz4 := hk4.size
        by_cases hqp : q < p
        · go_wp2_with (at_builtin; refine wpList_append_own _ rfl (.tmp 26) (.tmp 27) 40 rfl base 5 i0 (.int .u8 0) 1 1 Tryd.underlying40 hi hz0 hz1 hz2 rfl (by decide) _ _ _ rfl (hown4.alloc _) ⟨wr.heap.size, 0, none⟩ 1 1 [.int .u8 0] rfl rfl (cell_one_new _ _ _) (fun x hx => by simp at hx; subst hx; rfl) (by unfold maxLen; omega) (by omega) (by simp; omega) ?_; intro v5 w5 hown5 hgrow5 hnil5)
          go_roundw
          case rel =>
            refine ⟨q + 1, by omega, by go_num, ?_, (hk4.alloc (by omega) _).grown (hown4.alloc _) hgrow5 (by simp; omega)⟩
            rw [zeros_succ, ← List.append_assoc]
            exact hown5
          case measure => simp [intOf]; omega
        · obtain rfl : q = p := by omega
          go_wp2
          go_roundw
          case rel =>
            refine ⟨k + 1, by omega, by go_num, ?_, hk4⟩
            rw [HLEN.out, HET.out, cellsOf_append, hel]
            have e : cellsOf (enc s.data.toList) = cellsOf (le (s.size : Int) 8) ++ Lib.strCells s ++ cellsOf (List.replicate q 0) := by
              unfold enc
              have hl : s.data.toList.length = s.size := by simp
              rw [hl, HP.out, cellsOf_append, cellsOf_append]
              rfl
            rw [e, show n + (m + (8 + s.size + q)) = n + m + 8 + s.size + q by omega]
            simpa [List.append_assoc] using hown4
          case measure => simp [intOf]; omega
    · obtain rfl : k = ss.length := by omega
      rw [List.take_length, HE.out] at hown1
      go_wp2
      go_ret
      exact ⟨_, rfl, hown1, hk5⟩
end Go.Proofs.YtpbjdfobbnpjfaaDoor
