import Derived.Test.YticfcjmlphhpgaaGreatDoorRows
import Derived.Test.YticfcjmlphhpgaaGreatDoorA15
import Derived.Test.YticfcjmlphhpgaaGreatDoorA22
import Derived.WalkKit
import Derived.WalkSpells
import Derived.WalkLawsBesides
import Derived.Laws.IdiomStrings
import Derived.Laws.ResultCell
/-
  STORES: a tree out of its bytes.
-/
namespace Go.Proofs.YticfcjmlphhpgaaGreatDoor
open Go.RowKit

theorem tabsB {B : Nat} {w w' : World} (hB : 2 ≤ B) (h : Lib.Utf8Tabs 0 1 w) (hb : Below B w w') : Lib.Utf8Tabs 0 1 w' := tabs_B hB h hb
theorem tabs2 {w : World} (h : Lib.Utf8Tabs 0 1 w) : 2 ≤ w.heap.size := by
  have := World.block_lt_of_cell? w ⟨1, 0, none⟩ (h.2 0 (by omega)).1
  simp only at this
  omega
end Go.Proofs.YticfcjmlphhpgaaGreatDoor
/-
  PLAIN MATHEMATICS of the sum: FNV over bytes, a number's eight bytes. Imports nothing of the dump.
-/
namespace Go.Proofs.YticfcjmlphhpgaaGreatDoor.Sm
open Go.RowKit

def fnvStep (h : Int) (c : UInt8) : Int := IntKind.u64.wrap (bits BinOp.xor IntKind.u64 h (IntKind.u64.wrap ↑c.toNat) * 1099511628211)
def fnv (l : List UInt8) : Int := l.foldl fnvStep 14695981039346656037
theorem fnvStep_range (h : Int) (c : UInt8) : 0 ≤ fnvStep h c ∧ fnvStep h c < 18446744073709551616 := by
  unfold fnvStep
  rw [IntKind.wrap_u64]
  omega
theorem fnv_snoc (l : List UInt8) (c : UInt8) : fnv (l ++ [c]) = fnvStep (fnv l) c := by simp [fnv]
theorem fnv_range (l : List UInt8) : 0 ≤ fnv l ∧ fnv l < 18446744073709551616 := by
  rcases List.eq_nil_or_concat l with rfl | ⟨l', c, rfl⟩
  · simp [fnv]
  · rw [List.concat_eq_append, fnv_snoc]; exact fnvStep_range _ _
theorem take_snoc (s : ByteArray) (k : Nat) (h : k < s.size) : s.data.toList.take (k + 1) = s.data.toList.take k ++ [s[k]] := by
  rw [List.take_succ_eq_append_getElem (by simpa using h)]; rfl

def byteAt (H : Int) (j : Nat) : UInt8 := UInt8.ofNat (H / 2 ^ (8 * j) % 256).toNat
def le (H : Int) (k : Nat) : List UInt8 := (List.range k).map (byteAt H)
theorem byteAt_val (H : Int) (j : Nat) : ((byteAt H j).toNat : Int) = H / 2 ^ (8 * j) % 256 := by
  unfold byteAt
  generalize H / 2 ^ (8 * j) = x
  have h0 := Int.emod_nonneg x (b := 256) (by decide)
  have h1 := Int.emod_lt_of_pos x (b := 256) (by decide)
  rw [UInt8.toNat_ofNat']
  omega
theorem le_succ (H : Int) (k : Nat) : le H (k + 1) = le H k ++ [byteAt H k] := by simp [le, List.range_succ]
theorem le_length (H : Int) (k : Nat) : (le H k).length = k := by simp [le]
theorem shift_succ (H : Int) (k : Nat) : H / 2 ^ (8 * k) / 256 = H / 2 ^ (8 * (k + 1)) := by
  rw [Int.ediv_ediv_of_nonneg (Int.pow_nonneg (by decide)), show 8 * (k + 1) = 8 * k + 8 by omega, Int.pow_add]
  rfl
theorem shift_range (H : Int) (k : Nat) (h0 : 0 ≤ H) (h1 : H < 18446744073709551616) : 0 ≤ H / 2 ^ (8 * k) ∧ H / 2 ^ (8 * k) < 18446744073709551616 := by
  have hp : (0 : Int) < 2 ^ (8 * k) := Int.pow_pos (by decide)
  refine ⟨Int.ediv_nonneg h0 (Int.le_of_lt hp), Int.lt_of_le_of_lt (Int.ediv_le_self _ h0) h1⟩
/-- Bytes as cells. -/
def cellsOf (l : List UInt8) : List Value := l.map fun c => Value.int .u8 (c.toNat : Int)
theorem cellsOf_append (a b : List UInt8) : cellsOf (a ++ b) = cellsOf a ++ cellsOf b := by simp [cellsOf]
theorem cellsOf_length (a : List UInt8) : (cellsOf a).length = a.length := by simp [cellsOf]
end Go.Proofs.YticfcjmlphhpgaaGreatDoor.Sm
/-
  THE SUM: the program's and the document's, walked (carried).
-/
namespace Go.Proofs.YticfcjmlphhpgaaGreatDoor.Sm
open Go.RowKit

theorem Tryz.info5 : (Tryz.prog.info? 5).map (fun i => (i.zero, i.size, i.bytes)) = some (some (.int .u8 0), 1, 1) := by kernel_rfl

/-- 'string([]byte{c})' of a block just laid. -/
theorem conv_one (w : World) (n : Int) (c : UInt8) (h : n = (c.toNat : Int)) :
    (convert 95 9 (.slice (some ⟨w.heap.size, 0, none⟩) 1 1)).run Tryz.prog (w.alloc (.cells #[.int .u8 n] 5)) = .ok (.string ⟨#[c]⟩) (w.alloc (.cells #[.int .u8 n] 5)) := by
  subst h
  exact run_convert_bytes_back (P := Tryz.prog) _ 95 9 5 ⟨w.heap.size, 0, none⟩ 1 [c] Tryz.underlying95 Tryz.underlying5 Tryz.underlying9 (fun j hj => by
    obtain rfl : j = 0 := by simp at hj; omega
    exact cell_one_new _ _ _ 0 _ rfl)

set_option maxRecDepth 20000 in
set_option maxHeartbeats 400000 in
theorem ref_any (s : ByteArray) (w : World) (hs : s.size ≤ maxLen) :
    Calls Tryz.prog 52 #[.string s] w fun e w' => e = .returned (.string ⟨(le (fnv s.data.toList) 8).toArray⟩) ∧ Below w.heap.size w w' := by
  unfold maxLen at hs
  obtain ⟨H, hH⟩ : ∃ H, fnv s.data.toList = H := ⟨_, rfl⟩
  rw [hH]
  have HH : Hid (fnv s.data.toList = H) := hH
  clear hH
  go_enter Tryz.func52, Tryz.ntmps52
  go_wp2
  go_loop [3, 4] (fun h i => ∃ k : Nat, k ≤ s.size ∧ i = .int .i64 k ∧ h = .int .u64 (fnv (s.data.toList.take k))) (fun _ i => s.size - (intOf i).toNat)
  case atStart => exact ⟨0, Nat.zero_le _, rfl, rfl⟩
  case round =>
    obtain ⟨k, hk, rfl, rfl⟩ := hrel
    have hb := fnv_range (s.data.toList.take k)
    by_cases hlt : k < s.size
    · have HS : Hid (fnv (s.data.toList.take (k + 1)) = fnvStep (fnv (s.data.toList.take k)) s[k]) := by rw [take_snoc s k hlt]; exact fnv_snoc _ _
      go_wp2
      go_round
      case rel => exact ⟨k + 1, by omega, by go_num, by rw [HS.out]; rfl⟩
      case measure => simp [intOf]; omega
    · obtain rfl : k = s.size := by omega
      rw [List.take_of_length_le (by simp), HH.out] at hb ⊢
      go_wp2
      go_loopw [5, 6] (fun o i w1 => ∃ k : Nat, k ≤ 8 ∧ i = .int .i64 k ∧ Below w.heap.size w w1 ∧ o = .string ⟨(le H k).toArray⟩) (fun _ i _ => 8 - (intOf i).toNat)
      case atStart => exact ⟨0, by omega, rfl, Below.refl _ _, rfl⟩
      case round =>
        obtain ⟨k, hk, rfl, hbel, rfl⟩ := hrel
        by_cases hlt : k < 8
        · have hcv := conv_one wr (H / 2 ^ (8 * k) % 256) (byteAt H k) (byteAt_val H k).symm
          have hadd : ∀ w1, (Op.stringOp .add ⟨(le H k).toArray⟩ ⟨#[byteAt H k]⟩).run Tryz.prog w1 = .ok (.string ⟨(le H (k + 1)).toArray⟩) w1 := fun w1 => by
            rw [run_string_add_sum]
            · rw [le_succ, ByteArray.mk_append_mk]
            · have := le_length H k; simp [ByteArray.size]; omega
          go_wp2
          go_roundw
          case rel => exact ⟨k + 1, by omega, by go_num, hbel.alloc hbel.size _, rfl⟩
          case measure => simp [intOf]; omega
        · obtain rfl : k = 8 := by omega
          go_wp2
          go_ret
          exact ⟨rfl, hbel⟩

set_option maxRecDepth 20000 in
set_option maxHeartbeats 400000 in
theorem appendNumber_any (base : Nat) (v : Value) (n : Nat) (xs : List Value) (H : Int) (w : World) (h0 : 0 ≤ H) (h1 : H < 18446744073709551616)
    (hown : w.ownsRow base 5 1 v n xs) (hbase : base ≤ w.heap.size) (hn : n + 8 ≤ 140737488355328) :
    Calls Tryz.prog 107 #[v, .int .u64 H] w fun e w' => ∃ v', e = .returned v' ∧ w'.ownsRow base 5 1 v' (n + 8) (xs ++ cellsOf (le H 8)) ∧ Below base w w' := by
  obtain ⟨i0, hi, hz0, hz1, hz2⟩ := info_parts Tryz.info5
  go_enter Tryz.func107, Tryz.ntmps107
  go_wp2
  go_loopw [0, 1, 5] (fun o h i w1 => ∃ k : Nat, k ≤ 8 ∧ i = .int .i64 k ∧ h = .int .u64 (H / 2 ^ (8 * k)) ∧ w1.ownsRow base 5 1 o (n + k) (xs ++ cellsOf (le H k)) ∧ Below base w w1) (fun _ _ i _ => 8 - (intOf i).toNat)
  case atStart => exact ⟨0, by omega, rfl, by simp, by simpa [le, cellsOf] using hown, Below.refl _ _⟩
  case round =>
    rename_i o h i
    obtain ⟨k, hk, rfl, rfl, hown1, hbel⟩ := hrel
    have hr := shift_range H k h0 h1
    by_cases hlt : k < 8
    · go_wp2_with (at_builtin; refine wpList_append_own _ rfl (.tmp 7) (.tmp 10) 95 rfl base 5 i0 (.int .u8 0) 1 1 Tryz.underlying95 hi hz0 hz1 hz2 rfl (by decide) _ _ _ rfl (hown1.alloc _) ⟨wr.heap.size, 0, none⟩ 1 1 [.int .u8 (H / 2 ^ (8 * k) % 256)] rfl rfl (cell_one_new _ _ _) (fun x hx => by simp at hx; subst hx; rfl) (by unfold maxLen; omega) (by omega) (by simp; have := hbel.size; omega) ?_; intro v' w3 hown3 hgrow3 hnil3)
      go_roundw
      case rel =>
        refine ⟨k + 1, by omega, by go_num, ?_, ?_, ?_⟩
        · rw [← shift_succ]
        · rw [le_succ, cellsOf_append, ← List.append_assoc]
          have e : cellsOf [byteAt H k] = [.int .u8 (H / 2 ^ (8 * k) % 256)] := by simp [cellsOf, byteAt_val]
          rw [e]; exact hown3
        · exact (hbel.alloc (by have := hbel.size; omega) _).grown hgrow3 (by simp; have := hbel.size; omega) (fun k hk => (hown1.lt k hk).1)
      case measure => simp [intOf]; omega
    · obtain rfl : k = 8 := by omega
      go_wp2
      go_ret
      exact ⟨_, rfl, hown1, hbel⟩

/-- What an owned row of bytes reads as. -/
theorem own_string (base : Nat) (v : Value) (l : List UInt8) (w : World) (hown : w.ownsRow base 5 1 v l.length (cellsOf l)) (hl : 0 < l.length) :
    ∃ a c, v = .slice (some a) l.length c ∧ (convert 95 9 (.slice (some a) l.length c)).run Tryz.prog w = .ok (.string ⟨l.toArray⟩) w := by
  obtain ⟨_, ⟨_, h⟩ | ⟨g, cap, cur, rfl, h2⟩⟩ := hown
  · omega
  · have hown : w.ownsRow base 5 1 (.slice (some ⟨g, 0, none⟩) l.length cap) l.length (cellsOf l) := ⟨by simp [cellsOf_length], .inr ⟨g, cap, cur, rfl, h2⟩⟩
    refine ⟨_, _, rfl, run_convert_bytes_back (P := Tryz.prog) _ 95 9 5 ⟨g, 0, none⟩ cap l Tryz.underlying95 Tryz.underlying5 Tryz.underlying9 (fun j hj => ?_)⟩
    exact hown.cells rfl j _ (by simp [cellsOf, hj])

set_option maxRecDepth 20000 in
set_option maxHeartbeats 400000 in
theorem wireSum_any (s : ByteArray) (w : World) (hs : s.size ≤ maxLen) :
    Calls Tryz.prog 99 #[.string s] w fun e w' => e = .returned (.string ⟨(le (fnv s.data.toList) 8).toArray⟩) ∧ Below w.heap.size w w' := by
  unfold maxLen at hs
  obtain ⟨H, hH⟩ : ∃ H, fnv s.data.toList = H := ⟨_, rfl⟩
  rw [hH]
  have HH : Hid (fnv s.data.toList = H) := hH
  clear hH
  go_enter Tryz.func99, Tryz.ntmps99
  go_wp2
  go_loop [3, 4, 7] (fun h _ i => ∃ k : Nat, k ≤ s.size ∧ i = .int .i64 k ∧ h = .int .u64 (fnv (s.data.toList.take k))) (fun _ _ i => s.size - (intOf i).toNat)
  case atStart => exact ⟨0, Nat.zero_le _, rfl, rfl⟩
  case round =>
    obtain ⟨k, hk, rfl, rfl⟩ := hrel
    have hb := fnv_range (s.data.toList.take k)
    by_cases hlt : k < s.size
    · have HS : Hid (fnv (s.data.toList.take (k + 1)) = fnvStep (fnv (s.data.toList.take k)) s[k]) := by rw [take_snoc s k hlt]; exact fnv_snoc _ _
      go_wp2
      go_round
      case rel => exact ⟨k + 1, by omega, by go_num, by rw [HS.out]; rfl⟩
      case measure => simp [intOf]; omega
    · obtain rfl : k = s.size := by omega
      rw [List.take_of_length_le (by simp), HH.out] at hb ⊢
      go_wp2_with fail
      refine (appendNumber_any w.heap.size (.slice none 0 0) 0 [] H w hb.1 hb.2 (World.ownsRow_nil _ _ _ _) (Nat.le_refl _) (by omega)).mono ?_
      rintro e w1 ⟨v', rfl, hown, hbel⟩
      obtain ⟨a, c, rfl, hcv⟩ := own_string w.heap.size v' (le H 8) w1 (by simpa [le_length] using hown) (by simp [le_length])
      rw [le_length] at hcv ⊢
      go_wp2
      go_ret
      exact ⟨rfl, hbel⟩
end Go.Proofs.YticfcjmlphhpgaaGreatDoor.Sm
/-
  STORES: Get.
-/
namespace Go.Proofs.YticfcjmlphhpgaaGreatDoor
open Go.RowKit Go.Maps

theorem results_cell_two {P : Program} {fn : Func} {p u : Tmp} {ty : TypeId} (h : fn.results = #[.cell p ty, .tmp u]) (tmps : Array Value) (w : World) (g : Nat) (t : TypeId) (cs : Array Value) (fr : Nat × Nat) (d : TypeDesc)
    (hp : tmps.getD p undef = .pointer (some ⟨g, 0, none⟩)) (hg : w.heap[g]? = some (.cells cs t fr))
    (hu : P.underlying ty = some d) (hd : (match d with | .struct _ | .array _ _ => true | _ => false) = true) (hi : (P.info? ty).map (·.size) = some cs.size) :
    (results fn tmps).run P w = .ok (.tuple #[.agg cs, tmps.getD u undef]) w := by
  have hp' : tmps[p]?.getD undef = .pointer (some ⟨g, 0, none⟩) := by simpa using hp
  rw [results_cell_tmp h]
  simp [hp', asAddr, run_loadVar_row w g t ty cs fr d hg hu hd hi, Result.andThen]
theorem fwGo_none : ∀ (l : List Nd) (i : Nat) (ds : Ds), fwGo i ds l = none → ∃ Z, runF i ds l = some Z
  | [], _, ds, _ => ⟨ds, rfl⟩
  | n :: r, i, ds, h => by
    rw [fwGo_step'] at h
    simp only [runF]
    cases hs : stepW i ds n with
    | none => rw [hs] at h; cases h
    | some d => rw [hs] at h; exact fwGo_none r (i + 1) d h
theorem read_tree (ns : List Nd) (h : firstW ns = none) : readF (packB ns).data.toList = (ns, 0, 0) := by
  have hne : ns ≠ [] := fun e => by subst e; cases h
  obtain ⟨Z, hZ⟩ : ∃ Z, runF 0 [] ns = some Z := by
    refine fwGo_none ns 0 [] ?_
    unfold firstW at h
    cases ns with
    | nil => exact absurd rfl hne
    | cons n r => exact h
  exact read_pack ns Z hne hZ

set_option maxRecDepth 20000 in
set_option maxHeartbeats 1000000 in
/-- A path that is not there. -/
theorem Get_none (b : Nat) (S : List Ent) (p : ByteArray) (w : World) (h : PSt w b S) (hf : findS S p = none) (hs : p.size ≤ 1000000000) :
    Calls Tryz.prog 69 #[.map (some b), .string p] w fun e w' => e = .returned (.tuple #[.agg #[.slice none 0 0, .slice none 0 0, .string ⟨#[]⟩], .int .i64 15]) ∧ Below w.heap.size w w' := by
  have hkey : keyOf Tryz.prog 9 (.string p) = some (.string p.data.toList) := WideMaps.keyOf_string_mk Tryz.underlying9 (by unfold maxLen; omega)
  obtain ⟨L, h1, h2⟩ := h
  have hfK := h2.find p
  rw [hf] at hfK
  simp only at hfK
  have h3 : MapAt (w.alloc (.cells #[.slice none 0 0, .slice none 0 0, .string ⟨#[]⟩] 80)) b L := World.ownsMap.alloc h1 _
  clear h2 h1 hf
  go_enter Tryz.func69, Tryz.ntmps69
  go_wp2_with (first
    | (at_lookup; refine wpList_lookup_own_ok _ rfl _ _ 69 rfl 9 104 keyed9 Tryz.underlying69 rawR (zero103 _) (.held noE) [] rfl b _ _ rfl h3 _ _ rfl hkey ?_; intro v ps hv; rw [atKey_mapD, hfK] at hv; rw [has_mapD, hfK]; obtain rfl : v = .agg #[.string ⟨#[]⟩, .slice none 0 0] := rawR_inv hv; clear hv; simp only [Option.isSome])
    | fail)
  refine bodyPost_ret (results_cell_two rfl _ _ w.heap.size 80 _ (0, 0) _ rfl ((Below.heap_alloc _ _ _ (by simp)).trans (block_new w _)) Tryz.underlying80 rfl (by kernel_rfl)) rfl ?_
  exact ⟨rfl, ((Below.refl _ _).alloc (Nat.le_refl _) _).alloc (by simp) _⟩
end Go.Proofs.YticfcjmlphhpgaaGreatDoor
