import Derived.Test.YticcbaapbnfmmaaDoorProg
import Derived.Test.YticcbaapbnfmmaaDoorRows
import Derived.WalkKit
import Derived.Shelf.Small.Strs
import Derived.Shelf.Strings.Search1
import Derived.Shelf.Unicode.ValidAny
import Derived.WalkSpells
import Derived.WalkLawsBesides
import Derived.Laws.IdiomStrings
import Derived.Lib.AppendStr
import Derived.Lib.OthersKept
import Derived.BigQuiet
import Derived.Deep.QuietTactic
import Derived.Lib.ValidLaws
import Derived.Laws.RangeAny
namespace Go.Proofs.YticcbaapbnfmmaaDoor
open Go.RowKit

def wordOf (k : Int) : ByteArray := if k = 3 then ⟨#[108, 105, 110, 107]⟩ else if k = 4 then ⟨#[100, 105, 114]⟩ else ⟨#[102, 105, 108, 101]⟩
def prefixIn (s : ByteArray) : ByteArray := if s.data.toList = [] then ⟨#[]⟩ else s ++ ⟨#[47]⟩

/-- How many bytes stand up to the last '/', that one too. -/
def cutL : List UInt8 → Nat
  | [] => 0
  | c :: t => if 0 < cutL t then cutL t + 1 else if c = 47 then 1 else 0
theorem cutL_le : ∀ l, cutL l ≤ l.length
  | [] => Nat.le_refl _
  | c :: t => by
    have := cutL_le t
    simp only [cutL, List.length_cons]
    split
    · omega
    · split <;> omega
theorem cutL_zero : ∀ l, (∀ i, i < l.length → l[i]? ≠ some 47) → cutL l = 0
  | [], _ => rfl
  | c :: t, h => by
    have h0 := h 0 (by simp)
    have ht := cutL_zero t (fun i hi => by simpa using h (i + 1) (by simpa using hi))
    have hc : ¬ c = 47 := by simpa using h0
    simp [cutL, ht, hc]
theorem cutL_at : ∀ l j, j < l.length → l[j]? = some 47 → (∀ i, j < i → i < l.length → l[i]? ≠ some 47) → cutL l = j + 1
  | [], j, h, _, _ => by simp at h
  | c :: t, 0, _, hj, h => by
    have ht := cutL_zero t (fun i hi => by simpa using h (i + 1) (by omega) (by simpa using hi))
    have hc : c = 47 := by simpa using hj
    simp [cutL, ht, hc]
  | c :: t, j + 1, hl, hj, h => by
    have ht := cutL_at t j (by simpa using hl) (by simpa using hj) (fun i hi1 hi2 => by simpa using h (i + 1) (by omega) (by simpa using hi2))
    simp [cutL, ht]
def cut (s : ByteArray) : Nat := cutL s.data.toList
theorem cut_le (s : ByteArray) : cut s ≤ s.size := by have := cutL_le s.data.toList; simpa [cut] using this
def pre (s : ByteArray) : ByteArray := s.extract 0 (cut s)
def nam (s : ByteArray) : ByteArray := s.extract (cut s) s.size
theorem get?_of (s : ByteArray) (i : Nat) (h : i < s.size) : s.data.toList[i]? = some s[i] := by
  rw [List.getElem?_eq_getElem (by simpa using h)]; rfl
theorem cut_of (s : ByteArray) (j : Nat) (h : j < s.size) (hj : s[j].toNat = 47) (hr : ∀ i (hi : i < s.size), j < i → s[i].toNat ≠ 47) : cut s = j + 1 := by
  have e47 : ∀ c : UInt8, c.toNat = 47 → c = 47 := fun c hc => UInt8.toNat_inj.1 hc
  refine cutL_at _ j (by simpa using h) ?_ ?_
  · rw [get?_of s j h, e47 _ hj]
  · intro i h1 h2 h3
    have hi : i < s.size := by simpa using h2
    rw [get?_of s i hi] at h3
    exact hr i hi h1 (by rw [Option.some.inj h3]; rfl)
theorem cut_none (s : ByteArray) (hr : ∀ i (hi : i < s.size), s[i].toNat ≠ 47) : cut s = 0 := by
  refine cutL_zero _ ?_
  intro i h2 h3
  have hi : i < s.size := by simpa using h2
  rw [get?_of s i hi] at h3
  exact hr i hi (by rw [Option.some.inj h3]; rfl)

/-- May bytes stand with a node of a kind? -/
def fits (k : Int) (d : List UInt8) : Bool :=
  if k = 3 then decide (d ≠ []) && decide (d.length ≤ 100) && decide (¬ (0 : UInt8) ∈ d) else if k = 1 ∨ k = 2 then decide (d.length ≤ 100) else if k = 4 then decide (d = []) else false

/-! a number's eight bytes; a string in bytes -/
def byteAt (H : Int) (j : Nat) : UInt8 := UInt8.ofNat (H / 2 ^ (8 * j) % 256).toNat
def le (H : Int) (k : Nat) : List UInt8 := (List.range k).map (byteAt H)
theorem byteAt_val (H : Int) (j : Nat) : ((byteAt H j).toNat : Int) = H / 2 ^ (8 * j) % 256 := by
  unfold byteAt
  generalize H / 2 ^ (8 * j) = x
  have h0 := Int.emod_nonneg x (b := 256) (by decide)
  have h1 := Int.emod_lt_of_pos x (b := 256) (by decide)
  rw [UInt8.toNat_ofNat']
  omega
theorem le_succ (H : Int) (k : Nat) : le H (k + 1) = le H k ++ [byteAt H k] := by simp [le, List.range_succ]
theorem le_length (H : Int) (k : Nat) : (le H k).length = k := by simp [le]
theorem shift_succ (H : Int) (k : Nat) : H / 2 ^ (8 * k) / 256 = H / 2 ^ (8 * (k + 1)) := by
  rw [Int.ediv_ediv_of_nonneg (Int.pow_nonneg (by decide)), show 8 * (k + 1) = 8 * k + 8 by omega, Int.pow_add]
  rfl
theorem shift_range (H : Int) (k : Nat) (h0 : 0 ≤ H) (h1 : H < 18446744073709551616) : 0 ≤ H / 2 ^ (8 * k) ∧ H / 2 ^ (8 * k) < 18446744073709551616 := by
  have hp : (0 : Int) < 2 ^ (8 * k) := Int.pow_pos (by decide)
  refine ⟨Int.ediv_nonneg h0 (Int.le_of_lt hp), Int.lt_of_le_of_lt (Int.ediv_le_self _ h0) h1⟩
/-- Bytes as cells. -/
def cellsOf (l : List UInt8) : List Value := l.map fun c => Value.int .u8 (c.toNat : Int)
theorem cellsOf_append (a b : List UInt8) : cellsOf (a ++ b) = cellsOf a ++ cellsOf b := by simp [cellsOf]
theorem cellsOf_length (a : List UInt8) : (cellsOf a).length = a.length := by simp [cellsOf]
def padLen (n : Nat) : Nat := (8 - n % 8) % 8
def enc (l : List UInt8) : List UInt8 := le (l.length : Int) 8 ++ l ++ List.replicate (padLen l.length) 0
def encs : List (List UInt8) → List UInt8
  | [] => []
  | l :: r => enc l ++ encs r
theorem encs_append (a b : List (List UInt8)) : encs (a ++ b) = encs a ++ encs b := by
  induction a with
  | nil => rfl
  | cons x r ih => simp [encs, ih]
theorem enc_length (l : List UInt8) : (enc l).length ≤ l.length + 16 := by
  simp only [enc, List.length_append, le_length, List.length_replicate, padLen]; omega
end Go.Proofs.YticcbaapbnfmmaaDoor
namespace Go.Proofs
open Go.Shelf
def Tryd.lays137_ren : Go.Shelf.Ren := ⟨fun | 137 => 46 | 217 => 51 | 266 => 54 | n => n, fun | 9 => 9 | 5 => 5 | 3 => 3 | n => n, fun | n => n⟩
theorem Tryd.lays137 : Go.Proofs.Lays.n137 Tryd.prog Tryd.lays137_ren := {
  mixed := by kernel_rfl
  f137 := Tryd.func46.trans (congrArg some (by kernel_rfl))
  f217 := Tryd.func51.trans (congrArg some (by kernel_rfl))
  f266 := Tryd.func54.trans (congrArg some (by kernel_rfl))
  t3 := Tryd.underlying3
  a3 := Tryd.isAgg3
  z3 := Tryd.sizeOf3
  v3 := Tryd.zeroValue3
  t5 := Tryd.underlying5
  a5 := Tryd.isAgg5
  z5 := Tryd.sizeOf5
  v5 := Tryd.zeroValue5
  t9 := Tryd.underlying9
  a9 := Tryd.isAgg9
  z9 := Tryd.sizeOf9
  v9 := Tryd.zeroValue9 }
open Go.RowKit in
theorem Tryd.strings_IndexByte (s : ByteArray) (c : Int) (w : World) :
    Calls Tryd.prog 46 #[.string s, .int .u8 c] w fun e w' => e = .returned (.int .i64 (Lib.indexByte s.data.toList c.toNat.toUInt8)) ∧ w' = w := Any.strings_IndexByte Tryd.lays137 s c w
def Tryd.laysValid_ren : Go.Shelf.Ren := ⟨fun | 196 => 53 | 259 => 56 | n => n, fun | 9 => 9 | 4 => 4 | 3 => 3 | 5 => 5 | 12 => 12 | 119 => 108 | 0 => 0 | 46 => 106 | 139 => 111 | 138 => 110 | 53 => 94 | n => n, fun | 3 => 0 | 4 => 1 | n => n⟩
theorem Tryd.laysValid : Go.Proofs.Lays.n196 Tryd.prog Tryd.laysValid_ren := {
  mixed := by kernel_rfl
  f196 := Tryd.func53.trans (congrArg some (by kernel_rfl))
  f259 := Tryd.func56.trans (congrArg some (by kernel_rfl))
  t0 := Tryd.underlying0
  a0 := Tryd.isAgg0
  z0 := Tryd.sizeOf0
  v0 := Tryd.zeroValue0
  t3 := Tryd.underlying3
  a3 := Tryd.isAgg3
  z3 := Tryd.sizeOf3
  v3 := Tryd.zeroValue3
  t4 := Tryd.underlying4
  a4 := Tryd.isAgg4
  z4 := Tryd.sizeOf4
  v4 := Tryd.zeroValue4
  t5 := Tryd.underlying5
  a5 := Tryd.isAgg5
  z5 := Tryd.sizeOf5
  v5 := Tryd.zeroValue5
  t9 := Tryd.underlying9
  a9 := Tryd.isAgg9
  z9 := Tryd.sizeOf9
  v9 := Tryd.zeroValue9
  t12 := Tryd.underlying12
  a12 := Tryd.isAgg12
  z12 := Tryd.sizeOf12
  v12 := Tryd.zeroValue12
  t46 := Tryd.underlying106
  a46 := Tryd.isAgg106
  z46 := Tryd.sizeOf106
  v46 := Tryd.zeroValue106
  t53 := Tryd.underlying94
  a53 := Tryd.isAgg94
  z53 := Tryd.sizeOf94
  v53 := Tryd.zeroValue94
  t119 := Tryd.underlying108
  a119 := Tryd.isAgg108
  z119 := Tryd.sizeOf108
  t138 := Tryd.underlying110
  a138 := Tryd.isAgg110
  z138 := Tryd.sizeOf110
  v138 := Tryd.zeroValue110
  t139 := Tryd.underlying111
  a139 := Tryd.isAgg111
  z139 := Tryd.sizeOf111
  v139 := Tryd.zeroValue111
  g3 := by kernel_rfl
  g4 := by kernel_rfl }
open Go.RowKit in
theorem Tryd.utf8_ValidString (s : ByteArray) (w : World) (hs : s.size ≤ 9223372036854775807) (hT : Lib.Utf8Tabs 0 1 w) :
    Calls Tryd.prog 53 #[.string s] w fun e w' => e = .returned (.bool (Lib.validD s.data.toList)) ∧ Below w.heap.size w w' := Any.utf8_ValidString Tryd.laysValid s w hs hT
end Go.Proofs
namespace Go.Proofs.YticcbaapbnfmmaaDoor
open Go.RowKit

theorem hide {p : Prop} (h : p) : Hid p := h

set_option maxRecDepth 20000 in
set_option maxHeartbeats 400000 in
theorem kindWord_any (k : Int) (w : World) : Calls Tryd.prog 40 #[.int .i64 k] w fun e w' => e = .returned (.string (wordOf k)) ∧ w' = w := by
  by_cases h3 : k = 3
  · subst h3
    go_enter Tryd.func40, Tryd.ntmps40
    go_wp2
    go_ret
    exact ⟨rfl, rfl⟩
  · have h3b : (k == 3) = false := by simp [h3]
    by_cases h4 : k = 4
    · subst h4
      go_enter Tryd.func40, Tryd.ntmps40
      go_wp2
      go_ret
      exact ⟨rfl, rfl⟩
    · have h4b : (k == 4) = false := by simp [h4]
      have hw : wordOf k = ⟨#[102, 105, 108, 101]⟩ := by simp [wordOf, h3, h4]
      rw [hw]
      clear h3 h4 hw
      go_enter Tryd.func40, Tryd.ntmps40
      go_wp2
      go_ret
      exact ⟨rfl, rfl⟩

set_option maxRecDepth 20000 in
set_option maxHeartbeats 400000 in
theorem prefixIn_any (s : ByteArray) (w : World) (hs : s.size ≤ 1000000000) : Calls Tryd.prog 42 #[.string s] w fun e w' => e = .returned (.string (prefixIn s)) ∧ w' = w := by
  by_cases h : s.data.toList = []
  · have hp : prefixIn s = ⟨#[]⟩ := by simp only [prefixIn, if_pos h]
    have he : s.toList.isEmpty = true := by rw [ByteArray.toList_eq, h]; rfl
    rw [hp]
    clear hp h
    go_enter Tryd.func42, Tryd.ntmps42
    go_wp2
    go_ret
    exact ⟨rfl, rfl⟩
  · have hp : prefixIn s = s ++ ⟨#[47]⟩ := by simp only [prefixIn, if_neg h]
    have he : s.toList.isEmpty = false := by rw [ByteArray.toList_eq]; cases hh : s.data.toList with | nil => exact absurd hh h | cons a t => rfl
    rw [hp]
    clear hp h
    go_enter Tryd.func42, Tryd.ntmps42
    go_wp2
    go_ret
    exact ⟨rfl, rfl⟩

set_option maxRecDepth 20000 in
set_option maxHeartbeats 400000 in
theorem lastIndexS_any (s : ByteArray) (w : World) (hs : s.size ≤ 1000000000) : Calls Tryd.prog 55 #[.string s, .int .u8 47] w fun e w' => e = .returned (.int .i64 ((cut s : Int) - 1)) ∧ w' = w := by
  obtain ⟨c, hc⟩ : ∃ c, cut s = c := ⟨_, rfl⟩
  rw [hc]
  have HC : Hid (cut s = c) := hc
  clear hc
  go_enter Tryd.func55, Tryd.ntmps55
  go_wp2
  go_loop [5] (fun i => ∃ j : Nat, j ≤ s.size ∧ i = .int .i64 ((j : Int) - 1) ∧ Hid (∀ i (hi : i < s.size), j ≤ i → s[i].toNat ≠ 47)) (fun i => (intOf i + 1).toNat)
  case atStart => exact ⟨s.size, Nat.le_refl _, rfl, fun i hi h => by omega⟩
  case round =>
    obtain ⟨j, hj, rfl, hr⟩ := hrel
    by_cases h0 : j = 0
    · have hcz : c = 0 := by rw [← HC.out]; exact cut_none s (fun i hi => hr.out i hi (by omega))
      subst h0
      subst hcz
      go_wp2
      go_ret
      exact ⟨rfl, rfl⟩
    · obtain ⟨j, rfl⟩ : ∃ q, j = q + 1 := ⟨j - 1, by omega⟩
      rw [show ((j + 1 : Nat) : Int) - 1 = (j : Int) by omega]
      have hlt : j < s.size := by omega
      by_cases h47 : s[j].toNat = 47
      · have hcz : c = j + 1 := by rw [← HC.out]; exact cut_of s j hlt h47 (fun i hi h => hr.out i hi (by omega))
        have h47b : ((s[j].toNat : Int) == 47) = true := by simp [h47]
        subst hcz
        clear h47
        go_wp2
        go_ret
        exact ⟨by simp, rfl⟩
      · have h47b : ((s[j].toNat : Int) == 47) = false := by simp; omega
        have hr' : Hid (∀ i (hi : i < s.size), j ≤ i → s[i].toNat ≠ 47) := fun i hi h => by
          by_cases e : i = j
          · subst e; exact h47
          · exact hr.out i hi (by omega)
        clear h47 hr
        go_wp2
        go_round
        case rel => exact ⟨j, by omega, rfl, hr'⟩
        case measure => simp [intOf]

set_option maxRecDepth 20000 in
set_option maxHeartbeats 400000 in
theorem lastIndex_any (s : ByteArray) (w : World) (hs : s.size ≤ 1000000000) : Calls Tryd.prog 52 #[.string s, .int .u8 47] w fun e w' => e = .returned (.int .i64 ((cut s : Int) - 1)) ∧ w' = w := by
  go_enter Tryd.func52, Tryd.ntmps52
  go_wp2_with fail
  refine (lastIndexS_any s w hs).mono ?_
  rintro e w1 ⟨rfl, rfl⟩
  go_wp2
  go_ret
  exact ⟨rfl, rfl⟩

set_option maxRecDepth 20000 in
set_option maxHeartbeats 400000 in
theorem split_any (s : ByteArray) (w : World) (hs : s.size ≤ 1000000000) : Calls Tryd.prog 48 #[.string s] w fun e w' => e = .returned (.tuple #[.string (pre s), .string (nam s)]) ∧ ∃ n, w' = w.drewN n := by
  have hc := cut_le s
  obtain ⟨c, hcc⟩ : ∃ c, cut s = c := ⟨_, rfl⟩
  have hp : pre s = s.extract 0 c := by simp only [pre, hcc]
  have hn : nam s = s.extract c s.size := by simp only [nam, hcc]
  rw [hp, hn]
  rw [hcc] at hc
  have hl := lastIndex_any s w hs
  rw [hcc] at hl
  clear hp hn hcc
  have H := hide hl
  clear hl
  go_enter Tryd.func48, Tryd.ntmps48
  go_wp2_with fail
  refine H.out.mono ?_
  rintro e w1 ⟨rfl, rfl⟩
  go_wp2
  go_quiet (fail)
  go_wp2
  go_ret2
  exact ⟨rfl, _, rfl⟩

theorem indexByte_zero (l : List UInt8) : (Lib.indexByte l 0 < 0) ↔ ¬ (0 : UInt8) ∈ l := by
  have hge := Lib.indexByte_ge l 0
  constructor
  · intro h hm
    have e : Lib.indexByte l 0 = -1 := by omega
    obtain ⟨k, hk, hv⟩ := List.getElem_of_mem hm
    exact Lib.indexByte_none e k (by rw [List.getElem?_eq_getElem hk, hv])
  · intro h
    by_cases hlt : Lib.indexByte l 0 < 0
    · exact hlt
    · obtain ⟨o, ho⟩ := Int.eq_ofNat_of_zero_le (show 0 ≤ Lib.indexByte l 0 by omega)
      exact absurd (List.mem_of_getElem? (Lib.indexByte_some ho).1) h

set_option maxRecDepth 20000 in
set_option maxHeartbeats 400000 in
theorem dataFits_any (k : Int) (d : ByteArray) (w : World) (hs : d.size ≤ 1000000000) : Calls Tryd.prog 38 #[.int .i64 k, .string d] w fun e w' => e = .returned (.bool (fits k d.data.toList)) ∧ w' = w := by
  have hl : d.data.toList.length = d.size := by simp
  by_cases h3 : k = 3
  · subst h3
    by_cases he : d.data.toList = []
    · have hf : fits 3 d.data.toList = false := by simp [fits, he]
      have hee : d.toList.isEmpty = true := by rw [ByteArray.toList_eq, he]; rfl
      rw [hf]
      clear hf he hl
      go_enter Tryd.func38, Tryd.ntmps38
      go_wp2
      go_ret
      exact ⟨rfl, rfl⟩
    · have hee : d.toList.isEmpty = false := by rw [ByteArray.toList_eq]; cases hh : d.data.toList with | nil => exact absurd hh he | cons a t => rfl
      by_cases hb : d.size ≤ 100
      · have hi := Tryd.strings_IndexByte d 0 w
        have hf : fits 3 d.data.toList = decide (Lib.indexByte d.data.toList 0 < 0) := by
          have hd : decide (Lib.indexByte d.data.toList 0 < 0) = decide (¬ (0 : UInt8) ∈ d.data.toList) := decide_eq_decide.2 (indexByte_zero _)
          rw [hd]
          simp [fits, he, hb]
        rw [hf]
        have hbz : (d.size : Int) ≤ 100 := by omega
        clear hf he hl hb
        have HI := hide hi
        clear hi
        go_enter Tryd.func38, Tryd.ntmps38
        go_wp2_with fail
        refine HI.out.mono ?_
        rintro e w1 ⟨rfl, rfl⟩
        go_wp2
        go_ret
        exact ⟨rfl, rfl⟩
      · have hf : fits 3 d.data.toList = false := by simp [fits, hb]
        have hbz : ¬ (d.size : Int) ≤ 100 := by omega
        rw [hf]
        clear hf he hl hb
        go_enter Tryd.func38, Tryd.ntmps38
        go_wp2
        go_ret
        exact ⟨rfl, rfl⟩
  · have h3b : (k == 3) = false := by simp [h3]
    by_cases h1 : k = 1
    · subst h1
      have hf : fits 1 d.data.toList = decide ((d.size : Int) ≤ 100) := by simp [fits]; omega
      rw [hf]
      clear hf hl h3
      go_enter Tryd.func38, Tryd.ntmps38
      go_wp2
      go_ret
      exact ⟨rfl, rfl⟩
    · have h1b : (k == 1) = false := by simp [h1]
      by_cases h2 : k = 2
      · subst h2
        have hf : fits 2 d.data.toList = decide ((d.size : Int) ≤ 100) := by simp [fits]; omega
        rw [hf]
        clear hf hl h3
        go_enter Tryd.func38, Tryd.ntmps38
        go_wp2
        go_ret
        exact ⟨rfl, rfl⟩
      · have h2b : (k == 2) = false := by simp [h2]
        by_cases h4 : k = 4
        · subst h4
          have hf : fits 4 d.data.toList = d.toList.isEmpty := by rw [ByteArray.toList_eq]; cases hh : d.data.toList <;> simp [fits]
          rw [hf]
          clear hf hl h3 h1 h2
          go_enter Tryd.func38, Tryd.ntmps38
          go_wp2
          go_ret
          exact ⟨rfl, rfl⟩
        · have h4b : (k == 4) = false := by simp [h4]
          have hf : fits k d.data.toList = false := by simp [fits, h1, h2, h3, h4]
          rw [hf]
          clear hf hl h3 h1 h2 h4
          go_enter Tryd.func38, Tryd.ntmps38
          go_wp2
          go_ret
          exact ⟨rfl, rfl⟩

/-- The frame of what writes one row of bytes from 'base' on: nothing below 'base' has turned, nor any block that is no row of bytes. -/
structure K5 (base : Nat) (w w' : World) : Prop where
  bel : Below base w w'
  oth : Lib.OthersKept 5 none w w'
theorem K5.refl (base : Nat) (w : World) : K5 base w w := ⟨Below.refl _ _, Lib.OthersKept.refl _ _ _⟩
theorem K5.trans {base : Nat} {a b c : World} (h : K5 base a b) (k : K5 base b c) : K5 base a c := ⟨h.bel.trans k.bel, h.oth.trans k.oth⟩
theorem K5.alloc {base : Nat} {a w : World} (h : K5 base a w) (hB : base ≤ w.heap.size) (o : Obj) : K5 base a (w.alloc o) := ⟨h.bel.alloc hB o, h.oth.alloc o⟩
theorem K5.drew {base : Nat} {a w : World} (h : K5 base a w) : K5 base a w.drew := ⟨h.bel.drew, h.oth.drew⟩
theorem K5.drewN {base : Nat} {a w : World} (h : K5 base a w) : ∀ q, K5 base a (w.drewN q)
  | 0 => h
  | q + 1 => (K5.drewN h q).drew
theorem own_kind {w : World} {B : Nat} {e : TypeId} {s : Nat} {v : Value} {n : Nat} {xs : List Value} (h : w.ownsRow B e s v n xs) : ∀ g, v.ownBlock = some g → ∃ c fz, w.heap[g]? = some (.cells c e fz) := by
  intro g hg
  rcases h.2 with ⟨rfl, _⟩ | ⟨g', cap, cur, rfl, _, hh, _⟩
  · simp [Value.ownBlock] at hg
  · simp only [Value.ownBlock, Option.some.injEq] at hg
    subst hg
    exact ⟨_, _, hh⟩
theorem K5.grown {base : Nat} {a w w' : World} {v : Value} {n : Nat} {xs : List Value} (h : K5 base a w) (hown : w.ownsRow base 5 1 v n xs) (hg : w.grownBy w' v.ownBlock) (hB : base ≤ w.heap.size) : K5 base a w' :=
  ⟨h.bel.grown hg hB (fun k hk => (hown.lt k hk).1), h.oth.grown hg (own_kind hown)⟩
theorem K5.size {base : Nat} {w w' : World} (h : K5 base w w') : w.heap.size ≤ w'.heap.size := h.bel.size
theorem K5.block {base : Nat} {w w' : World} (h : K5 base w w') {b : Nat} {c : Array Value} {t : TypeId} {fz : Nat × Nat} (ht : t ≠ 5) (hb : w.heap[b]? = some (.cells c t fz)) : w'.heap[b]? = some (.cells c t fz) :=
  h.oth b _ hb (by simp) (fun c' fz' e => by cases e; exact ht rfl)

theorem Tryd.info5 : (Tryd.prog.info? 5).map (fun i => (i.zero, i.size, i.bytes)) = some (some (.int .u8 0), 1, 1) := by kernel_rfl

set_option maxRecDepth 20000 in
set_option maxHeartbeats 400000 in
theorem appendNumber_any (base : Nat) (v : Value) (n : Nat) (xs : List Value) (H : Int) (w : World) (h0 : 0 ≤ H) (h1 : H < 18446744073709551616)
    (hown : w.ownsRow base 5 1 v n xs) (hbase : base ≤ w.heap.size) (hn : n + 8 ≤ 140737488355328) :
    Calls Tryd.prog 43 #[v, .int .u64 H] w fun e w' => ∃ v', e = .returned v' ∧ w'.ownsRow base 5 1 v' (n + 8) (xs ++ cellsOf (le H 8)) ∧ K5 base w w' := by
  obtain ⟨i0, hi, hz0, hz1, hz2⟩ := info_parts Tryd.info5
  go_enter Tryd.func43, Tryd.ntmps43
  go_wp2
  go_loopw [0, 1, 5] (fun o h i w1 => ∃ k : Nat, k ≤ 8 ∧ i = .int .i64 k ∧ h = .int .u64 (H / 2 ^ (8 * k)) ∧ w1.ownsRow base 5 1 o (n + k) (xs ++ cellsOf (le H k)) ∧ K5 base w w1) (fun _ _ i _ => 8 - (intOf i).toNat)
  case atStart => exact ⟨0, by omega, rfl, by simp, by simpa [le, cellsOf] using hown, K5.refl _ _⟩
  case round =>
    rename_i o h i
    obtain ⟨k, hk, rfl, rfl, hown1, hbel⟩ := hrel
    have hr := shift_range H k h0 h1
    by_cases hlt : k < 8
    · go_wp2_with (at_builtin; refine wpList_append_own _ rfl (.tmp 7) (.tmp 10) 34 rfl base 5 i0 (.int .u8 0) 1 1 Tryd.underlying34 hi hz0 hz1 hz2 rfl (by decide) _ _ _ rfl (hown1.alloc _) ⟨wr.heap.size, 0, none⟩ 1 1 [.int .u8 (H / 2 ^ (8 * k) % 256)] rfl rfl (cell_one_new _ _ _) (fun x hx => by simp at hx; subst hx; rfl) (by unfold maxLen; omega) (by omega) (by simp; have := hbel.size; omega) ?_; intro v' w3 hown3 hgrow3 hnil3)
      go_roundw
      case rel =>
        refine ⟨k + 1, by omega, by go_num, ?_, ?_, ?_⟩
        · rw [← shift_succ]
        · rw [le_succ, cellsOf_append, ← List.append_assoc]
          have e : cellsOf [byteAt H k] = [.int .u8 (H / 2 ^ (8 * k) % 256)] := by simp [cellsOf, byteAt_val]
          rw [e]; exact hown3
        · exact (hbel.alloc (by have := hbel.size; omega) _).grown (hown1.alloc _) hgrow3 (by simp; have := hbel.size; omega)
      case measure => simp [intOf]; omega
    · obtain rfl : k = 8 := by omega
      go_wp2
      go_ret
      exact ⟨_, rfl, hown1, hbel⟩

theorem zeros_succ (k : Nat) : cellsOf (List.replicate (k + 1) 0) = cellsOf (List.replicate k 0) ++ [.int .u8 0] := by
  rw [List.replicate_succ', cellsOf_append]; rfl
theorem encs_take (ss : List ByteArray) (k : Nat) (h : k < ss.length) : encs ((ss.take (k + 1)).map (·.data.toList)) = encs ((ss.take k).map (·.data.toList)) ++ enc ss[k].data.toList := by
  rw [List.take_succ_eq_append_getElem h, List.map_append, encs_append]; simp [encs]
theorem encs_take_le (ss : List ByteArray) (k : Nat) : (encs ((ss.take k).map (·.data.toList))).length ≤ (encs (ss.map (·.data.toList))).length := by
  conv => rhs; rw [← List.take_append_drop k ss, List.map_append, encs_append]
  simp

set_option maxRecDepth 20000 in
set_option maxHeartbeats 400000 in
theorem filling_any (n : Nat) (w : World) (hn : n ≤ 1000000000000) : Calls Tryd.prog 44 #[.int .i64 (n : Int)] w fun e w' => e = .returned (.int .i64 (padLen n : Nat)) ∧ w' = w := by
  have hp : (8 - (n : Int) % 8) % 8 = ((padLen n : Nat) : Int) := by unfold padLen; omega
  rw [← hp]
  clear hp
  go_enter Tryd.func44, Tryd.ntmps44
  go_wp2
  go_ret
  exact ⟨rfl, rfl⟩

set_option maxRecDepth 20000 in
set_option maxHeartbeats 1000000 in
theorem Append_any (base : Nat) (v : Value) (n : Nat) (xs : List Value) (b : Nat) (ss : List ByteArray) (w : World)
    (hown : w.ownsRow base 5 1 v n xs) (hbase : base ≤ w.heap.size) (hb : w.heap[b]? = some (.cells (ss.map Value.string).toArray 9 (0, 0)))
    (hn : n + (encs (ss.map (·.data.toList))).length ≤ 1000000000000) (hss : ss.length ≤ 1000) :
    Calls Tryd.prog 33 #[v, .slice (some ⟨b, 0, none⟩) ss.length ss.length] w fun e w' => ∃ v', e = .returned v' ∧
      w'.ownsRow base 5 1 v' (n + (encs (ss.map (·.data.toList))).length) (xs ++ cellsOf (encs (ss.map (·.data.toList)))) ∧ K5 base w w' := by
  obtain ⟨i0, hi, hz0, hz1, hz2⟩ := info_parts Tryd.info5
  obtain ⟨E, hE⟩ : ∃ E, encs (ss.map (·.data.toList)) = E := ⟨_, rfl⟩
  rw [hE] at hn ⊢
  have HE := hide hE
  clear hE
  go_enter Tryd.func33, Tryd.ntmps33
  go_wp2
  go_loopw [0, 6, 9] (fun o _ i w1 => ∃ k : Nat, k ≤ ss.length ∧ i = .int .i64 k ∧ w1.ownsRow base 5 1 o (n + (encs ((ss.take k).map (·.data.toList))).length) (xs ++ cellsOf (encs ((ss.take k).map (·.data.toList)))) ∧ K5 base w w1) (fun _ _ i _ => ss.length - (intOf i).toNat)
  case atStart => exact ⟨0, by omega, rfl, by simpa [encs, cellsOf] using hown, K5.refl _ _⟩
  case round =>
    rename_i o _ i
    obtain ⟨k, hk, rfl, hown1, hk5⟩ := hrel
    by_cases hlt : k < ss.length
    · have hbr := hk5.block (by decide) hb
      have hcell : wr.cell? ⟨b, k, none⟩ = some (.string ss[k]) := by
        simp [World.cell?, hbr, hlt]
      have hle := encs_take_le ss (k + 1)
      rw [HE.out] at hle
      have het := encs_take ss k hlt
      have hlen : (encs ((ss.take (k + 1)).map (·.data.toList))).length = (encs ((ss.take k).map (·.data.toList))).length + (enc ss[k].data.toList).length := by rw [het, List.length_append]
      rw [hlen] at hle
      generalize hm : (encs ((ss.take k).map (·.data.toList))).length = m at hown1 hle hlen
      generalize hs : ss[k] = s at hcell hle hlen het
      have hel : (enc s.data.toList).length = 8 + s.size + padLen s.size := by simp [enc, le_length]; omega
      have hpl : padLen s.size < 8 := by unfold padLen; omega
      have hsz := hk5.size
      clear hs hm
      have HET := hide het
      have HLEN := hide hlen
      clear het hlen
      have hw64 : IntKind.u64.wrap (s.size : Int) = (s.size : Int) := by rw [IntKind.wrap_u64]; omega
      go_wp2_with fail
      refine (appendNumber_any base _ _ _ (s.size : Int) wr (by omega) (by omega) hown1 (by omega) (by omega)).mono ?_
      rintro e w2 ⟨v2, rfl, hown2, hk2⟩
      have hsz2 := hk2.size
      go_wp2_with (at_builtin; refine Lib.wpList_append_own_string _ rfl (.tmp 18) (.tmp 19) 34 9 rfl base 5 i0 Tryd.underlying34 Tryd.underlying9 hi hz0 hz1 hz2 v2 _ _ rfl hown2 s rfl (by unfold maxLen; omega) (by omega) (by omega) ?_; intro v3 w3 hown3 hgrow3 hnil3)
      have hk3 : K5 base w w3 := (hk5.trans hk2).grown hown2 hgrow3 (by omega)
      have hsz3 := hgrow3.size
      clear hgrow3 hnil3 hown2 hk2 hown hb hbr hcell
      obtain ⟨p, hp⟩ : ∃ p, padLen s.size = p := ⟨_, rfl⟩
      refine (filling_any s.size w3 (by omega)).mono ?_
      rintro e w4 ⟨rfl, rfl⟩
      rw [hp] at hel hpl ⊢
      have HP := hide hp
      clear hp
      go_wp2
      go_loopw [0, 24] (fun o i w1 => ∃ q : Nat, q ≤ p ∧ i = .int .i64 q ∧ w1.ownsRow base 5 1 o (n + m + 8 + s.size + q) (xs ++ cellsOf (encs ((ss.take k).map (·.data.toList))) ++ cellsOf (le (s.size : Int) 8) ++ Lib.strCells s ++ cellsOf (List.replicate q 0)) ∧ K5 base w w1) (fun _ i _ => p - (intOf i).toNat)
      case atStart => exact ⟨0, by omega, rfl, by simpa [cellsOf] using hown3, hk3⟩
      case round =>
        rename_i o2 i2
        obtain ⟨q, hq, rfl, hown4, hk4⟩ := hrel
        have hsz4 := hk4.size
        by_cases hqp : q < p
        · go_wp2_with (at_builtin; refine wpList_append_own _ rfl (.tmp 26) (.tmp 27) 34 rfl base 5 i0 (.int .u8 0) 1 1 Tryd.underlying34 hi hz0 hz1 hz2 rfl (by decide) _ _ _ rfl (hown4.alloc _) ⟨wr.heap.size, 0, none⟩ 1 1 [.int .u8 0] rfl rfl (cell_one_new _ _ _) (fun x hx => by simp at hx; subst hx; rfl) (by unfold maxLen; omega) (by omega) (by simp; omega) ?_; intro v5 w5 hown5 hgrow5 hnil5)
          go_roundw
          case rel =>
            refine ⟨q + 1, by omega, by go_num, ?_, (hk4.alloc (by omega) _).grown (hown4.alloc _) hgrow5 (by simp; omega)⟩
            rw [zeros_succ, ← List.append_assoc]
            exact hown5
          case measure => simp [intOf]; omega
        · obtain rfl : q = p := by omega
          go_wp2
          go_roundw
          case rel =>
            refine ⟨k + 1, by omega, by go_num, ?_, hk4⟩
            rw [HLEN.out, HET.out, cellsOf_append, hel]
            have e : cellsOf (enc s.data.toList) = cellsOf (le (s.size : Int) 8) ++ Lib.strCells s ++ cellsOf (List.replicate q 0) := by
              unfold enc
              have hl : s.data.toList.length = s.size := by simp
              rw [hl, HP.out, cellsOf_append, cellsOf_append]
              rfl
            rw [e, show n + (m + (8 + s.size + q)) = n + m + 8 + s.size + q by omega]
            simpa [List.append_assoc] using hown4
          case measure => simp [intOf]; omega
    · obtain rfl : k = ss.length := by omega
      rw [List.take_length, HE.out] at hown1
      go_wp2
      go_ret
      exact ⟨_, rfl, hown1, hk5⟩
end Go.Proofs.YticcbaapbnfmmaaDoor
namespace Go.Proofs.YticcbaapbnfmmaaDoor
open Go.RowKit

def badR (r w : Nat) : Bool := (decide (r = 65533) && decide (w = 1)) || decide (r < 32) || decide (r = 127) || decide (r = 47)
def lettersGo : Nat → List UInt8 → Option Nat
  | 0, _ => some 0
  | n + 1, l => if l = [] then some 0 else if badR (Lib.decodeL l).1 (Lib.decodeL l).2 = true then none else (lettersGo n (l.drop (Lib.decodeL l).2)).map (· + 1)
def letters (l : List UInt8) : Option Nat := lettersGo l.length l
theorem lettersGo_nil : ∀ n, lettersGo n [] = some 0
  | 0 => rfl
  | n + 1 => by simp [lettersGo]
theorem lettersGo_fuel : ∀ (n m : Nat) (l : List UInt8), l.length ≤ n → l.length ≤ m → lettersGo n l = lettersGo m l
  | 0, m, l, h, _ => by
    have : l = [] := List.eq_nil_of_length_eq_zero (by omega)
    subst this; rw [lettersGo_nil, lettersGo_nil]
  | n + 1, 0, l, _, h => by
    have : l = [] := List.eq_nil_of_length_eq_zero (by omega)
    subst this; rw [lettersGo_nil, lettersGo_nil]
  | n + 1, m + 1, l, h1, h2 => by
    by_cases hl : l = []
    · subst hl; rw [lettersGo_nil, lettersGo_nil]
    · have hw := Lib.decodeL_width l
      have hlen : 0 < l.length := List.length_pos_iff.2 hl
      have hd : (l.drop (Lib.decodeL l).2).length ≤ l.length - 1 := by rw [List.length_drop]; omega
      simp only [lettersGo, if_neg hl]
      rw [lettersGo_fuel n m _ (by omega) (by omega)]
theorem letters_nil : letters [] = some 0 := rfl
theorem letters_step (l : List UInt8) (hl : l ≠ []) : letters l = if badR (Lib.decodeL l).1 (Lib.decodeL l).2 = true then none else (letters (l.drop (Lib.decodeL l).2)).map (· + 1) := by
  have hw := Lib.decodeL_width l
  have hlen : 0 < l.length := List.length_pos_iff.2 hl
  have hd : (l.drop (Lib.decodeL l).2).length ≤ l.length - 1 := by rw [List.length_drop]; omega
  unfold letters
  obtain ⟨n, hn⟩ : ∃ n, l.length = n + 1 := ⟨l.length - 1, by omega⟩
  conv => lhs; rw [hn]
  simp only [lettersGo, if_neg hl]
  rw [lettersGo_fuel n (l.drop (Lib.decodeL l).2).length _ (by omega) (by omega)]
/-- What is no valid UTF-8 has no letters. -/
theorem letters_invalid : ∀ (n : Nat) (l : List UInt8), l.length ≤ n → Lib.validD l = false → letters l = none
  | 0, l, h, hv => by
    have : l = [] := List.eq_nil_of_length_eq_zero (by omega)
    subst this; simp [Lib.validD_nil] at hv
  | n + 1, l, h, hv => by
    by_cases hl : l = []
    · subst hl; simp [Lib.validD_nil] at hv
    · have hw := Lib.decodeL_width l
      have hlen : 0 < l.length := List.length_pos_iff.2 hl
      rw [Lib.validD_step l hl] at hv
      rw [letters_step l hl]
      by_cases hb : badR (Lib.decodeL l).1 (Lib.decodeL l).2 = true
      · rw [if_pos hb]
      · rw [if_neg hb]
        by_cases hc : (Lib.decodeL l).1 = 65533 ∧ (Lib.decodeL l).2 = 1
        · exact absurd (by simp [badR, hc.1, hc.2]) hb
        · rw [if_neg hc] at hv
          rw [letters_invalid n _ (by rw [List.length_drop]; omega) hv]
          rfl
def isNameB (l : List UInt8) : Bool := !(l == [46]) && !(l == [46, 46]) && match letters l with | some n => decide (1 ≤ n) && decide (n ≤ 12) | none => false
theorem isNameB_none (l : List UInt8) (h : letters l = none) : isNameB l = false := by simp [isNameB, h]
theorem isNameB_some (l : List UInt8) (n : Nat) (h : letters l = some n) (h1 : ¬ l = [46]) (h2 : ¬ l = [46, 46]) : isNameB l = (decide ((1 : Int) ≤ n) && decide ((n : Int) ≤ 12)) := by
  have a1 : (l == [46]) = false := beq_eq_false_iff_ne.2 h1
  have a2 : (l == [46, 46]) = false := beq_eq_false_iff_ne.2 h2
  have e1 : decide (1 ≤ n) = decide ((1 : Int) ≤ n) := decide_eq_decide.2 (by omega)
  have e2 : decide (n ≤ 12) = decide ((n : Int) ≤ 12) := decide_eq_decide.2 (by omega)
  unfold isNameB
  rw [a1, a2, h, ← e1, ← e2]
  rfl
end Go.Proofs.YticcbaapbnfmmaaDoor
namespace Go.Proofs.YticcbaapbnfmmaaDoor
open Go.RowKit

theorem width_pos (s : ByteArray) (pos : Nat) (h : pos < s.size) : 1 ≤ (Utf8.decode s pos).2 := by
  by_cases ha : (s[pos]'h).toNat < 128
  · rw [decode_ascii s pos h ha]
    exact Nat.le_refl _
  · exact (decode_high s pos h (by omega)).2
theorem drop_ne (s : ByteArray) (pos : Nat) (h : pos < s.size) : s.data.toList.drop pos ≠ [] := by
  intro e
  have := congrArg List.length e
  simp at this
  omega

set_option maxRecDepth 20000 in
set_option maxHeartbeats 1000000 in
theorem isName_any (s : ByteArray) (w : World) (hs : s.size ≤ 1000000000) (hT : Lib.Utf8Tabs 0 1 w) :
    Calls Tryd.prog 50 #[.string s] w fun e w' => e = .returned (.bool (isNameB s.data.toList)) ∧ Below w.heap.size w w' := by
  by_cases h1 : s.data.toList = [46]
  · have hf : isNameB s.data.toList = false := by rw [h1]; rfl
    have hb : (s.toList == [46]) = true := by rw [ByteArray.toList_eq, h1]; rfl
    rw [hf]
    clear hf h1
    go_enter Tryd.func50, Tryd.ntmps50
    go_wp2
    go_ret
    exact ⟨rfl, Below.refl _ _⟩
  · have hb1 : (s.toList == [46]) = false := by rw [ByteArray.toList_eq]; exact beq_eq_false_iff_ne.2 h1
    by_cases h2 : s.data.toList = [46, 46]
    · have hf : isNameB s.data.toList = false := by rw [h2]; rfl
      have hb : (s.toList == [46, 46]) = true := by rw [ByteArray.toList_eq, h2]; rfl
      rw [hf]
      clear hf h1 h2
      go_enter Tryd.func50, Tryd.ntmps50
      go_wp2
      go_ret
      exact ⟨rfl, Below.refl _ _⟩
    · have hb2 : (s.toList == [46, 46]) = false := by rw [ByteArray.toList_eq]; exact beq_eq_false_iff_ne.2 h2
      have cV := hide (Tryd.utf8_ValidString s w (by omega) hT)
      by_cases hv : Lib.validD s.data.toList = true
      · obtain ⟨R, hR⟩ : ∃ R, isNameB s.data.toList = R := ⟨_, rfl⟩
        rw [hR]
        rw [hv] at cV
        have HI : Hid (∀ n, letters s.data.toList = some n → R = (decide ((1 : Int) ≤ n) && decide ((n : Int) ≤ 12))) := fun n hn => by rw [← hR]; exact isNameB_some _ n hn h1 h2
        have HN : Hid (letters s.data.toList = none → R = false) := fun hn => by rw [← hR]; exact isNameB_none _ hn
        have HV := hide hv
        clear hR h1 h2 hv hT
        go_enter Tryd.func50, Tryd.ntmps50
        go_wp2_with fail
        refine cV.out.mono ?_
        rintro e w1 ⟨rfl, hbel⟩
        clear cV
        go_wp2
        go_loopw [3, 5] (fun c _ w' => ∃ (pos q : Nat), w' = w1.iter s pos ∧ c = .int .i64 q ∧ q ≤ pos ∧ pos ≤ s.size ∧ Hid (letters s.data.toList = (letters (s.data.toList.drop pos)).map (· + q)) ∧ Hid (Lib.validD (s.data.toList.drop pos) = true)) (fun _ _ w' => s.size - w'.iterPos w1.heap.size)
        case atStart => exact ⟨0, 0, rfl, rfl, by omega, by omega, by show _ = _; simp, HV⟩
        case round =>
          obtain ⟨pos, q, rfl, rfl, hq, hpos, HL, HVr⟩ := hrel
          by_cases hp : pos < s.size
          · have hnx : ∀ ty, (Instr.next (.pointer (some ⟨w1.heap.size, 0, none⟩)) true ty).run Tryd.prog (w1.iter s pos) = _ := fun ty => run_next_any w1 s pos ty hp
            have hst := letters_step _ (drop_ne s pos hp)
            have hvt := HVr.out
            rw [Lib.validD_step _ (drop_ne s pos hp)] at hvt
            have hwle := Lib.decodeL_le _ (drop_ne s pos hp)
            rw [Lib.decodeL_drop] at hst hvt hwle
            have hwd := width_pos s pos hp
            rw [List.length_drop] at hwle
            have hlen : s.data.toList.length = s.size := by simp
            rw [List.drop_drop] at hst hvt
            generalize (Utf8.decode s pos).1 = r at hst hvt hnx
            generalize (Utf8.decode s pos).2 = d at hst hvt hnx hwd hwle
            have hnv : ¬ (r = 65533 ∧ d = 1) := fun h => by rw [if_pos h] at hvt; exact absurd hvt (by decide)
            rw [if_neg hnv] at hvt
            have HV2 := hide hvt
            by_cases hbad : r < 32 ∨ r = 127 ∨ r = 47
            · have hbt : badR r d = true := by unfold badR; rcases hbad with h | h | h <;> simp [h]
              rw [if_pos hbt] at hst
              have hl := HL.out
              rw [hst] at hl
              have hRf := HN.out hl
              subst hRf
              clear hst hl hvt hbt hnv HN HI hlen
              rcases hbad with h | h | h
              · have hz : (r : Int) < 32 := by omega
                go_wp2
                go_ret
                exact ⟨rfl, hbel.alloc hbel.size _⟩
              · subst h
                go_wp2
                go_ret
                exact ⟨rfl, hbel.alloc hbel.size _⟩
              · subst h
                go_wp2
                go_ret
                exact ⟨rfl, hbel.alloc hbel.size _⟩
            · have hbt : ¬ badR r d = true := by
                unfold badR
                simp
                omega
              rw [if_neg hbt] at hst
              have HST := hide hst
              have hz1 : ¬ (r : Int) < 32 := by omega
              have hz2 : ((r : Int) == 127) = false := beq_eq_false_iff_ne.2 (by omega)
              have hz3 : ((r : Int) == 47) = false := beq_eq_false_iff_ne.2 (by omega)
              clear hst hvt hbt hnv HN HI hbad
              go_wp2
              go_roundw
              case rel =>
                refine ⟨pos + d, q + 1, rfl, by go_num, by omega, by omega, ?_, HV2⟩
                show _ = _
                rw [HL.out, HST.out]
                cases letters (List.drop (pos + d) s.data.toList) with
                | none => rfl
                | some x => simp; omega
              case measure => simp; omega
          · have hnx : ∀ ty, (Instr.next (.pointer (some ⟨w1.heap.size, 0, none⟩)) true ty).run Tryd.prog (w1.iter s pos) = _ := fun ty => run_next_end w1 s pos ty hp
            have hRv := HI.out q (by rw [HL.out, List.drop_eq_nil_of_le (by simp; omega), letters_nil]; simp)
            subst hRv
            clear HN HI
            by_cases hq1 : (1 : Int) ≤ q
            · have hd : decide ((1 : Int) ≤ q) = true := by simpa using hq1
              go_wp2
              go_ret
              exact ⟨by rw [hd]; rfl, hbel.alloc hbel.size _⟩
            · have hd : decide ((1 : Int) ≤ q) = false := by simpa using hq1
              go_wp2
              go_ret
              exact ⟨rfl, hbel.alloc hbel.size _⟩
      · have hvf : Lib.validD s.data.toList = false := by simpa using hv
        have hf : isNameB s.data.toList = false := isNameB_none _ (letters_invalid _ _ (Nat.le_refl _) hvf)
        rw [hf]
        rw [hvf] at cV
        clear hf hvf hv h1 h2 hT
        go_enter Tryd.func50, Tryd.ntmps50
        go_wp2_with fail
        refine cV.out.mono ?_
        rintro e w1 ⟨rfl, hbel⟩
        clear cV
        go_wp2
        go_ret
        exact ⟨rfl, hbel⟩
end Go.Proofs.YticcbaapbnfmmaaDoor
namespace Go.Proofs.YticcbaapbnfmmaaDoor
open Go.RowKit

def flat2 : List (ByteArray × ByteArray) → List Value
  | [] => []
  | d :: r => .string d.1 :: .string d.2 :: flat2 r
theorem flat2_append : ∀ a b, flat2 (a ++ b) = flat2 a ++ flat2 b
  | [], b => rfl
  | d :: r, b => by simp [flat2, flat2_append r b]
theorem flat2_0 : ∀ (ds : List (ByteArray × ByteArray)) (k : Nat) (h : k < ds.length), (flat2 ds)[k * 2]? = some (.string ds[k].1)
  | [], k, h => by simp at h
  | d :: r, 0, h => by simp [flat2]
  | d :: r, k + 1, h => by
    have := flat2_0 r k (by simpa using h)
    rw [show (k + 1) * 2 = k * 2 + 1 + 1 by omega]
    simpa [flat2] using this
theorem flat2_1 : ∀ (ds : List (ByteArray × ByteArray)) (k : Nat) (h : k < ds.length), (flat2 ds)[k * 2 + 1]? = some (.string ds[k].2)
  | [], k, h => by simp at h
  | d :: r, 0, h => by simp [flat2]
  | d :: r, k + 1, h => by
    have := flat2_1 r k (by simpa using h)
    rw [show (k + 1) * 2 + 1 = k * 2 + 1 + 1 + 1 by omega]
    simpa [flat2] using this
theorem flat2_take : ∀ (ds : List (ByteArray × ByteArray)) (k : Nat), (flat2 ds).take (k * 2) = flat2 (ds.take k)
  | [], k => by simp [flat2]
  | d :: r, 0 => by simp [flat2]
  | d :: r, k + 1 => by
    rw [show (k + 1) * 2 = k * 2 + 1 + 1 by omega]
    simp [flat2, flat2_take r k]
theorem flat2_set : ∀ (ds : List (ByteArray × ByteArray)) (k : Nat) (h : k < ds.length) (x : ByteArray), (flat2 ds).set (k * 2 + 1) (.string x) = flat2 (ds.set k (ds[k].1, x))
  | [], k, h, x => by simp at h
  | d :: r, 0, h, x => by simp [flat2]
  | d :: r, k + 1, h, x => by
    have := flat2_set r k (by simpa using h) x
    rw [show (k + 1) * 2 + 1 = k * 2 + 1 + 1 + 1 by omega]
    simpa [flat2] using this

/-- How many directories stand above a node of that prefix; 0: none that is open has it. -/
def above : List (ByteArray × ByteArray) → ByteArray → Nat
  | [], _ => 0
  | d :: r, p => if d.1 = p then 1 else if above r p = 0 then 0 else above r p + 1
theorem above_none : ∀ (ds : List (ByteArray × ByteArray)) (p : ByteArray), (∀ k (h : k < ds.length), ds[k].1 ≠ p) → above ds p = 0
  | [], p, _ => rfl
  | d :: r, p, h => by
    have h0 : ¬ d.1 = p := h 0 (by simp)
    have hr := above_none r p (fun k hk => h (k + 1) (by simpa using hk))
    simp [above, h0, hr]
theorem above_at : ∀ (ds : List (ByteArray × ByteArray)) (p : ByteArray) (k : Nat) (h : k < ds.length), ds[k].1 = p → (∀ j (hj : j < ds.length), j < k → ds[j].1 ≠ p) → above ds p = k + 1
  | [], p, k, h, _, _ => by simp at h
  | d :: r, p, 0, h, hk, _ => by
    have h0 : d.1 = p := hk
    simp [above, h0]
  | d :: r, p, k + 1, h, hk, hj => by
    have h0 : ¬ d.1 = p := hj 0 (by simp) (by omega)
    have hr := above_at r p k (by simpa using h) (by simpa using hk) (fun j hj1 hj2 => hj (j + 1) (by simpa using hj1) (by omega))
    simp [above, h0, hr]
theorem above_le : ∀ (ds : List (ByteArray × ByteArray)) (p : ByteArray), above ds p ≤ ds.length
  | [], _ => Nat.le_refl _
  | d :: r, p => by
    have := above_le r p
    simp only [above, List.length_cons]
    split
    · omega
    · split <;> omega
end Go.Proofs.YticcbaapbnfmmaaDoor
namespace Go.Proofs.YticcbaapbnfmmaaDoor
open Go.RowKit

/-- What is owned stays owned where nothing old has turned. -/
theorem own_below {w w' : World} {B : Nat} {e : TypeId} {s : Nat} {v : Value} {n : Nat} {xs : List Value} (h : w.ownsRow B e s v n xs) (hb : Below w.heap.size w w') : w'.ownsRow B e s v n xs :=
  h.kept (row := none) ⟨hb.os, hb.tape, hb.output, hb.size, fun k hk _ => hb.block k hk⟩ (by cases v.ownBlock <;> simp)

theorem eqB_true {a b : ByteArray} (h : a = b) : (a.toList == b.toList) = true := by subst h; simp
theorem eqB_false {a b : ByteArray} (h : ¬ a = b) : (a.toList == b.toList) = false := by
  rw [ByteArray.toList_eq, ByteArray.toList_eq]
  exact beq_eq_false_iff_ne.2 (fun e => h (WideShapes.bytes_inj e))

set_option maxRecDepth 20000 in
set_option maxHeartbeats 1000000 in
theorem countAbove_any (base : Nat) (v : Value) (ds : List (ByteArray × ByteArray)) (p : ByteArray) (w : World) (hown : w.ownsRow base 105 2 v ds.length (flat2 ds)) (hlen : ds.length ≤ 1000) :
    Calls Tryd.prog 49 #[v, .string p] w fun e w' => e = .returned (.int .i64 (above ds p)) ∧ Below w.heap.size w w' := by
  obtain ⟨A, hA⟩ : ∃ A, above ds p = A := ⟨_, rfl⟩
  rw [hA]
  have HA := hide hA
  clear hA
  rcases hown.2 with ⟨rfl, h0⟩ | ⟨g, cap, cur, rfl, hg⟩
  · have hA0 : A = 0 := by rw [← HA.out, List.eq_nil_of_length_eq_zero h0]; rfl
    subst hA0
    clear hown HA
    go_enter Tryd.func49, Tryd.ntmps49
    go_wp2
    refine wp_loop_rounds 1 ?_
    rw [rounds_succ]
    go_wp2
    go_ret
    exact ⟨rfl, Below.refl _ _⟩
  · clear hg
    go_enter Tryd.func49, Tryd.ntmps49
    go_wp2
    go_loopw [5, 6, 9] (fun _ _ i w1 => ∃ k : Nat, k ≤ ds.length ∧ i = .int .i64 k ∧ Below w.heap.size w w1 ∧ Hid (∀ j (hj : j < ds.length), j < k → ds[j].1 ≠ p)) (fun _ _ i _ => ds.length - (intOf i).toNat)
    case atStart => exact ⟨0, by omega, rfl, Below.refl _ _, fun j _ h => by omega⟩
    case round =>
      rename_i i5 i6 i9
      obtain ⟨k, hk, rfl, hbel, hno⟩ := hrel
      by_cases hlt : k < ds.length
      · have hownr := own_below hown hbel
        have c0 := (hownr.cellAt (k * 2) (by omega)).trans (flat2_0 ds k hlt)
        have c1 := (hownr.cellAt (k * 2 + 1) (by omega)).trans (flat2_1 ds k hlt)
        by_cases he : ds[k].1 = p
        · have hb := eqB_true he
          have hA0 : A = k + 1 := by rw [← HA.out]; exact above_at ds p k hlt he hno.out
          subst hA0
          clear he
          go_wp2
          go_ret
          exact ⟨by go_num, hbel.alloc hbel.size _⟩
        · have hb := eqB_false he
          have hno' : Hid (∀ j (hj : j < ds.length), j < k + 1 → ds[j].1 ≠ p) := fun j hj h => by
            by_cases e : j = k
            · subst e; exact he
            · exact hno.out j hj (by omega)
          clear he
          go_wp2
          go_roundw
          case rel => exact ⟨k + 1, by omega, by go_num, hbel.alloc hbel.size _, hno'⟩
          case measure => simp [intOf]; omega
      · have hA0 : A = 0 := by rw [← HA.out]; exact above_none ds p (fun j hj => hno.out j hj (by omega))
        subst hA0
        go_wp2
        go_ret
        exact ⟨rfl, hbel⟩

/-- The frame of what writes one row of elements of type e from 'base' on. -/
structure KE (e : TypeId) (base : Nat) (w w' : World) : Prop where
  bel : Below base w w'
  oth : Lib.OthersKept e none w w'
theorem KE.refl (e : TypeId) (base : Nat) (w : World) : KE e base w w := ⟨Below.refl _ _, Lib.OthersKept.refl _ _ _⟩
theorem KE.trans {e : TypeId} {base : Nat} {a b c : World} (h : KE e base a b) (k : KE e base b c) : KE e base a c := ⟨h.bel.trans k.bel, h.oth.trans k.oth⟩
theorem KE.alloc {e : TypeId} {base : Nat} {a w : World} (h : KE e base a w) (hB : base ≤ w.heap.size) (o : Obj) : KE e base a (w.alloc o) := ⟨h.bel.alloc hB o, h.oth.alloc o⟩
theorem KE.drew {e : TypeId} {base : Nat} {a w : World} (h : KE e base a w) : KE e base a w.drew := ⟨h.bel.drew, h.oth.drew⟩
theorem KE.drewN {e : TypeId} {base : Nat} {a w : World} (h : KE e base a w) : ∀ q, KE e base a (w.drewN q)
  | 0 => h
  | q + 1 => (KE.drewN h q).drew
theorem KE.grown {e : TypeId} {base s : Nat} {a w w' : World} {v : Value} {n : Nat} {xs : List Value} (h : KE e base a w) (hown : w.ownsRow base e s v n xs) (hg : w.grownBy w' v.ownBlock) (hB : base ≤ w.heap.size) : KE e base a w' :=
  ⟨h.bel.grown hg hB (fun k hk => (hown.lt k hk).1), h.oth.grown hg (own_kind hown)⟩
theorem KE.size {e : TypeId} {base : Nat} {w w' : World} (h : KE e base w w') : w.heap.size ≤ w'.heap.size := h.bel.size
theorem KE.block {e : TypeId} {base : Nat} {w w' : World} (h : KE e base w w') {b : Nat} {c : Array Value} {t : TypeId} {fz : Nat × Nat} (ht : t ≠ e) (hb : w.heap[b]? = some (.cells c t fz)) : w'.heap[b]? = some (.cells c t fz) :=
  h.oth b _ hb (by simp) (fun c' fz' e => by cases e; exact ht rfl)
/-- Where nothing old has turned at all. -/
theorem KE.of_below {e : TypeId} {base : Nat} {w w' : World} (h : Below w.heap.size w w') (hB : base ≤ w.heap.size) : KE e base w w' :=
  ⟨h.mono hB, fun k o hk _ _ => by rw [h.block k (Array.getElem?_eq_some_iff.1 hk).1]; exact hk⟩

theorem cell_two_at (w : World) (a b : Value) (t : TypeId) (n : Nat) (h : n = w.heap.size) : ∀ j u, [a, b][j]? = some u → (w.alloc (.cells #[a, b] t)).cell? ((⟨n, 0, none⟩ : Addr).add j) = some u := by
  subst h; exact cell_two_new w a b t

def enterL (ds : List (ByteArray × ByteArray)) (path : ByteArray) (kind : Int) : List (ByteArray × ByteArray) := if kind = 4 then ds ++ [(prefixIn path, ⟨#[]⟩)] else ds
theorem Tryd.info105 : (Tryd.prog.info? 105).map (fun i => (i.zero, i.size, i.bytes)) = some (some (.agg #[.string ⟨#[]⟩, .string ⟨#[]⟩]), 2, 32) := by kernel_rfl

set_option maxRecDepth 20000 in
set_option maxHeartbeats 1000000 in
theorem enter_any (base : Nat) (v : Value) (ds : List (ByteArray × ByteArray)) (path : ByteArray) (kind : Int) (data : ByteArray) (w : World) (hown : w.ownsRow base 105 2 v ds.length (flat2 ds)) (hbase : base ≤ w.heap.size) (hlen : ds.length ≤ 1000) (hs : path.size ≤ 1000000000) :
    Calls Tryd.prog 47 #[v, .agg #[.string path, .int .i64 kind, .string data]] w fun e w' => ∃ v', e = .returned v' ∧ w'.ownsRow base 105 2 v' (enterL ds path kind).length (flat2 (enterL ds path kind)) ∧ KE 105 base w w' := by
  obtain ⟨i0, hi, hz0, hz1, hz2⟩ := info_parts Tryd.info105
  by_cases h4 : kind = 4
  · subst h4
    have hE : enterL ds path 4 = ds ++ [(prefixIn path, ⟨#[]⟩)] := by simp [enterL]
    rw [hE]
    clear hE
    have hp := hide (prefixIn_any path (w.alloc (.cells #[.string path, .int .i64 4, .string data] 45)) hs)
    generalize prefixIn path = q at hp
    go_enter Tryd.func47, Tryd.ntmps47
    go_wp2_with fail
    refine hp.out.mono ?_
    rintro e w1 ⟨rfl, rfl⟩
    clear hp
    go_wp2_with (at_builtin; refine wpList_append_own _ rfl (.tmp 8) (.tmp 13) 87 rfl base 105 i0 (.agg #[.string ⟨#[]⟩, .string ⟨#[]⟩]) 2 32 Tryd.underlying87 hi hz0 hz1 hz2 rfl (by decide) _ _ _ rfl ((hown.alloc _).alloc _) ⟨w.heap.size + 1, 0, none⟩ 1 1 [.string q, .string ⟨#[]⟩] rfl rfl (cell_two_at _ _ _ _ _ (by simp)) (fun x hx => by simp at hx; rcases hx with rfl | rfl <;> rfl) (by unfold maxLen; omega) (by omega) (by simp; omega) ?_; intro v' w3 hown3 hgrow3 hnil3)
    go_ret
    refine ⟨_, rfl, ?_, ?_⟩
    · rw [flat2_append, List.length_append]
      exact hown3
    · exact (((KE.refl 105 base w).alloc hbase _).alloc (by simp; omega) _).grown ((hown.alloc _).alloc _) hgrow3 (by simp; omega)
  · have hE : enterL ds path kind = ds := by simp [enterL, h4]
    have h4b : (kind == 4) = false := beq_eq_false_iff_ne.2 h4
    rw [hE]
    clear hE h4
    go_enter Tryd.func47, Tryd.ntmps47
    go_wp2
    go_ret
    exact ⟨_, rfl, hown.alloc _, (KE.refl 105 base w).alloc hbase _⟩
end Go.Proofs.YticcbaapbnfmmaaDoor
