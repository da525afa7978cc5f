import Derived.Test.YticcbaapbnfmmaaDoorP01
import Derived.Test.YticcbaapbnfmmaaDoorP02
import Derived.Test.YticcbaapbnfmmaaDoorP03
import Derived.Test.YticcbaapbnfmmaaDoorP04
import Derived.Test.YticcbaapbnfmmaaDoorP06
import Derived.Maps.OwnSet
import Derived.Maps.OwnOps
import Derived.Maps.RangeWalk
import Derived.Lib.MapLaws
namespace Go.Proofs.YticcbaapbnfmmaaDoor
open Go.RowKit Go.Maps Go.WideMaps

/-- An element of a map as it lies there. -/
def rawR (v : Value) : Option (DataW Value × List MemPlace) := some (.held v, [])
def mapD (L : List (Bs × Value)) : DataW Value := .map (L.map fun e => (Lit.string e.1, DataW.held e.2))
theorem rawR_inv {v u : Value} {ps : List MemPlace} (h : rawR v = some (.held u, ps)) : v = u := by
  unfold rawR at h
  injection h with h
  injection h with h _
  injection h
def findK (L : List (Bs × Value)) (k : Bs) : Option Value := (L.find? fun e => e.1 == k).map (·.2)
theorem sameKey_str (a b : Bs) : (Lit.string a).sameKey (.string b) = (a == b) := rfl
theorem has_mapD (L : List (Bs × Value)) (k : Bs) : Maps.has (mapD L) (.string k) = (findK L k).isSome := by
  unfold mapD findK
  rw [Maps.has_eq]
  induction L with
  | nil => rfl
  | cons e r ih =>
    simp only [List.map_cons, List.any_cons, List.find?_cons, sameKey_str]
    cases h : e.1 == k with
    | true => simp
    | false => simpa using ih
theorem atKey_mapD (L : List (Bs × Value)) (k : Bs) (z : Value) : (mapD L).atKey (.string k) (.held z) = .held ((findK L k).getD z) := by
  unfold mapD findK DataW.atKey
  simp only
  induction L with
  | nil => rfl
  | cons e r ih =>
    simp only [List.map_cons, List.find?_cons, sameKey_str]
    cases h : e.1 == k with
    | true => simp
    | false => simpa using ih
theorem size_mapD (L : List (Bs × Value)) : Maps.size (mapD L) = L.length := by unfold mapD; rw [Maps.size_eq]; simp
def insK (x : Bs × Value) : List (Bs × Value) → List (Bs × Value)
  | [] => [x]
  | y :: r => if bytesBefore x.1 y.1 then x :: y :: r else y :: insK x r
theorem insert_mapD (x : Bs × Value) : ∀ L : List (Bs × Value), DataW.insert (Lit.string x.1, DataW.held x.2) (L.map fun e => (Lit.string e.1, DataW.held e.2)) = (insK x L).map fun e => (Lit.string e.1, DataW.held e.2)
  | [] => rfl
  | y :: r => by
    have e1 : DataW.insert (Lit.string x.1, DataW.held x.2) ((y :: r).map fun e => (Lit.string e.1, DataW.held e.2)) = if bytesBefore x.1 y.1 = true then (Lit.string x.1, DataW.held x.2) :: (y :: r).map (fun e => (Lit.string e.1, DataW.held e.2)) else (Lit.string y.1, DataW.held y.2) :: DataW.insert (Lit.string x.1, DataW.held x.2) (r.map fun e => (Lit.string e.1, DataW.held e.2)) := rfl
    have e2 : insK x (y :: r) = if bytesBefore x.1 y.1 = true then x :: y :: r else y :: insK x r := rfl
    rw [e1, e2, insert_mapD x r]
    by_cases h : bytesBefore x.1 y.1 = true
    · rw [if_pos h, if_pos h]; rfl
    · rw [if_neg h, if_neg h]; rfl
theorem put_mapD (L : List (Bs × Value)) (k : Bs) (v : Value) (h : findK L k = none) : (mapD L).put (.string k) (.held v) = mapD (insK (k, v) L) := by
  unfold mapD DataW.put
  simp only
  have hno : ∀ e ∈ L, (e.1 == k) = false := by
    unfold findK at h
    rw [Option.map_eq_none_iff, List.find?_eq_none] at h
    intro e he
    simpa using h e he
  have : (L.map fun e => (Lit.string e.1, DataW.held e.2)).filter (fun p : Lit × DataW Value => !p.1.sameKey (.string k)) = L.map fun e => (Lit.string e.1, DataW.held e.2) := by
    rw [List.filter_eq_self]
    intro p hp
    obtain ⟨e, he, rfl⟩ := List.mem_map.1 hp
    simp only [sameKey_str, hno e he]; rfl
  rw [this, insert_mapD (k, v) L]
theorem before_less : ∀ a b : Bs, bytesBefore a b = Op.bytesLess a b
  | [], [] => rfl
  | [], _ :: _ => rfl
  | _ :: _, [] => rfl
  | a :: r, b :: s => by
    show (decide (a < b) || (a == b && bytesBefore r s)) = (decide (a < b) || (a == b && Op.bytesLess r s))
    rw [before_less r s]
theorem keyed9 : Keyed Tryd.prog 9 := string_keyed Tryd.underlying9
/-- A map of a store, in memory. -/
def MapAt (w : World) (b : Nat) (L : List (Bs × Value)) : Prop := w.ownsMap Tryd.prog 9 rawR b L.length (mapD L)
theorem zero103 (w : World) : (zeroValue 59).run Tryd.prog w = .ok (.agg #[.string ⟨#[]⟩, .slice none 0 0]) w := by kernel_rfl

def noE : Value := .agg #[.string ⟨#[]⟩, .slice none 0 0]
/-- All are entries. -/
def Ents (L : List (Bs × Value)) : Prop := ∀ e ∈ L, ∃ t a n c, e.2 = .agg #[.string t, .slice a n c]
theorem findK_mem {L : List (Bs × Value)} {k : Bs} {v : Value} (h : findK L k = some v) : (k, v) ∈ L := by
  unfold findK at h
  obtain ⟨e, he, rfl⟩ := Option.map_eq_some_iff.1 h
  have h1 := List.mem_of_find?_eq_some he
  have h2 := List.find?_some he
  have h3 : e.1 = k := by simpa using h2
  rw [← h3]; exact h1
theorem Ents.find {L : List (Bs × Value)} (h : Ents L) (k : Bs) : ∃ t a n c, (findK L k).getD noE = .agg #[.string t, .slice a n c] := by
  cases hf : findK L k with
  | none => exact ⟨_, _, _, _, rfl⟩
  | some v => exact h _ (findK_mem hf)

set_option maxRecDepth 20000 in
set_option maxHeartbeats 1000000 in
theorem lacks_any (b : Nat) (L : List (Bs × Value)) (s : ByteArray) (w : World) (h : MapAt w b L) (hE : Ents L) (hs : s.size ≤ 1000000000) :
    Calls Tryd.prog 15 #[.map (some b), .string s] w fun e w' => e = .returned (.bool (findK L s.data.toList).isNone) ∧ Below w.heap.size w w' := by
  have hkey : keyOf Tryd.prog 9 (.string s) = some (.string s.data.toList) := keyOf_string_mk Tryd.underlying9 (by unfold maxLen; omega)
  obtain ⟨t0, a0, n0, p0, e0⟩ := hE.find s.data.toList
  have HE := hide e0
  clear hE e0
  go_enter Tryd.func15, Tryd.ntmps15
  go_wp2_with (at_lookup; refine wpList_lookup_own_ok _ rfl _ _ 39 rfl 9 59 keyed9 Tryd.underlying39 rawR (zero103 _) (.held noE) [] rfl b _ _ rfl h _ _ rfl hkey ?_; intro v ps hv; rw [atKey_mapD] at hv; rw [has_mapD]; obtain rfl : v = .agg #[.string t0, .slice a0 n0 p0] := (rawR_inv hv).trans HE.out; clear hv)
  go_ret
  refine ⟨?_, ?_⟩
  · cases findK L s.data.toList <;> rfl
  · exact ((Below.refl _ w).alloc (Nat.le_refl _) _)
end Go.Proofs.YticcbaapbnfmmaaDoor
namespace Go.Proofs.YticcbaapbnfmmaaDoor
open Go.RowKit

theorem data_appendV (a b : ByteArray) : (a ++ b).data.toList = a.data.toList ++ b.data.toList := by simp
/-- How many directories stand above a path. -/
def depthL (l : List UInt8) : Nat := if l = [] then 0 else 1 + l.count 47
end Go.Proofs.YticcbaapbnfmmaaDoor
namespace Go.Proofs.YticcbaapbnfmmaaDoor
open Go.RowKit

def pathN (c : Nat) : Bool := decide (97 ≤ c ∧ c ≤ 122) || decide (48 ≤ c ∧ c ≤ 57) || decide (c = 45)
def isPathB (l : List UInt8) : Bool := l.all (fun c => pathN c.toNat) && decide (1 ≤ l.length) && decide (l.length ≤ 12)
theorem pathN_yes (c : Nat) (h : (97 ≤ c ∧ c ≤ 122) ∨ (48 ≤ c ∧ c ≤ 57) ∨ c = 45) : pathN c = true := by
  unfold pathN
  rcases h with h | h | h
  · rw [decide_eq_true h]; rfl
  · rw [decide_eq_true h]; simp
  · rw [decide_eq_true h]; simp
theorem pathN_no (c : Nat) (h : ¬ ((97 ≤ c ∧ c ≤ 122) ∨ (48 ≤ c ∧ c ≤ 57) ∨ c = 45)) : pathN c = false := by
  unfold pathN
  rw [decide_eq_false (fun x => h (.inl x)), decide_eq_false (fun x => h (.inr (.inl x))), decide_eq_false (fun x => h (.inr (.inr x)))]
  rfl
theorem isPath_no (s : ByteArray) (p : Nat) (hp : p < s.size) (h : pathN s[p].toNat = false) : isPathB s.data.toList = false := by
  unfold isPathB
  have : s.data.toList.all (fun c => pathN c.toNat) = false := by
    rw [Bool.eq_false_iff]
    intro e
    have := List.all_eq_true.1 e s[p] (List.mem_of_getElem? (get?_of s p hp))
    rw [h] at this; cases this
  rw [this]; rfl
theorem isPath_yes (s : ByteArray) (h : ∀ p (hp : p < s.size), pathN s[p].toNat = true) : isPathB s.data.toList = (decide ((1 : Int) ≤ s.size) && decide ((s.size : Int) ≤ 12)) := by
  have hl : s.data.toList.length = s.size := by simp
  unfold isPathB
  have : s.data.toList.all (fun c => pathN c.toNat) = true := by
    rw [List.all_eq_true]
    intro x hx
    obtain ⟨p, hp, rfl⟩ := List.getElem_of_mem hx
    exact h p (by rw [hl] at hp; exact hp)
  rw [this, Bool.true_and, hl]
  congr 1 <;> exact decide_eq_decide.2 (by omega)

set_option maxRecDepth 20000 in
set_option maxHeartbeats 2000000 in
theorem isPath_any (s : ByteArray) (w : World) (hs : s.size ≤ 1000000000) : Calls Tryd.prog 18 #[.string s] w fun e w' => e = .returned (.bool (isPathB s.data.toList)) ∧ w' = w := by
  obtain ⟨R, hR⟩ : ∃ R, isPathB s.data.toList = R := ⟨_, rfl⟩
  rw [hR]
  have Hno : Hid (∀ p (hp : p < s.size), pathN s[p].toNat = false → R = false) := fun p hp h => by rw [← hR]; exact isPath_no s p hp h
  have Hyes : Hid ((∀ p (hp : p < s.size), pathN s[p].toNat = true) → R = (decide ((1 : Int) ≤ s.size) && decide ((s.size : Int) ≤ 12))) := fun h => by rw [← hR]; exact isPath_yes s h
  clear hR
  go_enter Tryd.func18, Tryd.ntmps18
  go_wp2
  go_loop [3, 4, 7] (fun _ _ i => ∃ j : Nat, j ≤ s.size ∧ i = .int .i64 j ∧ Hid (∀ p (hp : p < s.size), p < j → pathN s[p].toNat = true)) (fun _ _ i => s.size - (intOf i).toNat)
  case atStart => exact ⟨0, by omega, rfl, fun p _ h => by omega⟩
  case round =>
    obtain ⟨j, hj, rfl, hall⟩ := hrel
    by_cases hlt : j < s.size
    · have hz : (j : Int) < s.size := by omega
      have hb := s[j].toNat_lt
      obtain ⟨c, hc⟩ : ∃ c, s[j].toNat = c := ⟨_, rfl⟩
      have HN : Hid (pathN c = false → R = false) := fun h => Hno.out j hlt (by rw [hc]; exact h)
      have HY : Hid (pathN c = true → ∀ p (hp : p < s.size), p < j + 1 → pathN s[p].toNat = true) := fun h p hp hpj => by
        by_cases e : p = j
        · subst e; rw [hc]; exact h
        · exact hall.out p hp (by omega)
      clear Hno hall
      rw [hc] at hb
      rcases (show (97 ≤ c ∧ c ≤ 122) ∨ (122 < c) ∨ (58 ≤ c ∧ c < 97) ∨ (48 ≤ c ∧ c ≤ 57) ∨ (c = 45) ∨ (c < 48 ∧ c ≠ 45) by omega) with h | h | h | h | h | h
      · have d1 : decide ((c : Int) < 97) = false := decide_eq_false (by omega)
        have d2 : decide ((122 : Int) < (c : Int)) = false := decide_eq_false (by omega)
        have d3 : decide ((c : Int) < 48) = false := decide_eq_false (by omega)
        have d4 : decide ((57 : Int) < (c : Int)) = true := decide_eq_true (by omega)
        have d5 : ((c : Int) == 45) = false := by exact beq_eq_false_iff_ne.2 (by omega)
        have hall' := hide (HY.out (pathN_yes c (by omega)))
        clear HN HY h
        go_wp2
        go_round
        case rel => exact ⟨j + 1, by omega, by go_num, hall'⟩
        case measure => simp [intOf]; omega
      · have d1 : decide ((c : Int) < 97) = false := decide_eq_false (by omega)
        have d2 : decide ((122 : Int) < (c : Int)) = true := decide_eq_true (by omega)
        have d3 : decide ((c : Int) < 48) = false := decide_eq_false (by omega)
        have d4 : decide ((57 : Int) < (c : Int)) = true := decide_eq_true (by omega)
        have d5 : ((c : Int) == 45) = false := by exact beq_eq_false_iff_ne.2 (by omega)
        have hRf := HN.out (pathN_no c (by omega))
        subst hRf
        clear HN HY Hyes h
        go_wp2
        go_ret
        exact ⟨rfl, rfl⟩
      · have d1 : decide ((c : Int) < 97) = true := decide_eq_true (by omega)
        have d2 : decide ((122 : Int) < (c : Int)) = false := decide_eq_false (by omega)
        have d3 : decide ((c : Int) < 48) = false := decide_eq_false (by omega)
        have d4 : decide ((57 : Int) < (c : Int)) = true := decide_eq_true (by omega)
        have d5 : ((c : Int) == 45) = false := by exact beq_eq_false_iff_ne.2 (by omega)
        have hRf := HN.out (pathN_no c (by omega))
        subst hRf
        clear HN HY Hyes h
        go_wp2
        go_ret
        exact ⟨rfl, rfl⟩
      · have d1 : decide ((c : Int) < 97) = true := decide_eq_true (by omega)
        have d2 : decide ((122 : Int) < (c : Int)) = false := decide_eq_false (by omega)
        have d3 : decide ((c : Int) < 48) = false := decide_eq_false (by omega)
        have d4 : decide ((57 : Int) < (c : Int)) = false := decide_eq_false (by omega)
        have d5 : ((c : Int) == 45) = false := by exact beq_eq_false_iff_ne.2 (by omega)
        have hall' := hide (HY.out (pathN_yes c (by omega)))
        clear HN HY h
        go_wp2
        go_round
        case rel => exact ⟨j + 1, by omega, by go_num, hall'⟩
        case measure => simp [intOf]; omega
      · have d1 : decide ((c : Int) < 97) = true := decide_eq_true (by omega)
        have d2 : decide ((122 : Int) < (c : Int)) = false := decide_eq_false (by omega)
        have d3 : decide ((c : Int) < 48) = true := decide_eq_true (by omega)
        have d4 : decide ((57 : Int) < (c : Int)) = false := decide_eq_false (by omega)
        have d5 : ((c : Int) == 45) = true := by rw [h]; rfl
        have hall' := hide (HY.out (pathN_yes c (by omega)))
        clear HN HY h
        go_wp2
        go_round
        case rel => exact ⟨j + 1, by omega, by go_num, hall'⟩
        case measure => simp [intOf]; omega
      · have d1 : decide ((c : Int) < 97) = true := decide_eq_true (by omega)
        have d2 : decide ((122 : Int) < (c : Int)) = false := decide_eq_false (by omega)
        have d3 : decide ((c : Int) < 48) = true := decide_eq_true (by omega)
        have d4 : decide ((57 : Int) < (c : Int)) = false := decide_eq_false (by omega)
        have d5 : ((c : Int) == 45) = false := by exact beq_eq_false_iff_ne.2 (by omega)
        have hRf := HN.out (pathN_no c (by omega))
        subst hRf
        clear HN HY Hyes h
        go_wp2
        go_ret
        exact ⟨rfl, rfl⟩
    · have hRt := Hyes.out (fun p hp => hall.out p hp (by omega))
      have hz : ¬ (j : Int) < s.size := by omega
      clear Hno Hyes hall
      by_cases h1 : (1 : Int) ≤ s.size
      · have d1 : decide ((1 : Int) ≤ s.size) = true := decide_eq_true h1
        rw [d1, Bool.true_and] at hRt
        subst hRt
        go_wp2
        go_ret
        exact ⟨rfl, rfl⟩
      · have d1 : decide ((1 : Int) ≤ s.size) = false := decide_eq_false h1
        rw [d1, Bool.false_and] at hRt
        subst hRt
        go_wp2
        go_ret
        exact ⟨rfl, rfl⟩
end Go.Proofs.YticcbaapbnfmmaaDoor
namespace Go.Proofs.YticcbaapbnfmmaaDoor
open Go.RowKit

/-- A list of texts in memory. -/
def SliceS (w : World) (v : Value) (ss : List ByteArray) : Prop :=
  ∃ a cap, v = .slice a ss.length cap ∧ ss.length ≤ cap ∧ (0 < ss.length → ∃ b off, a = some ⟨b, off, none⟩ ∧ b < w.heap.size ∧ ∀ j (h : j < ss.length), w.cell? ⟨b, off + j, none⟩ = some (.string ss[j]))
theorem SliceS.below {w w' : World} {v : Value} {ss : List ByteArray} (h : SliceS w v ss) (hb : Below w.heap.size w w') : SliceS w' v ss := by
  obtain ⟨a, cap, rfl, h1, h3⟩ := h
  refine ⟨a, cap, rfl, h1, fun hn => ?_⟩
  obtain ⟨b, off, rfl, h4, h5⟩ := h3 hn
  refine ⟨b, off, rfl, Nat.lt_of_lt_of_le h4 hb.size, fun j hj => ?_⟩
  rw [← h5 j hj]
  exact hb.cell h4
def eqL (a b : List ByteArray) : Bool := decide (a = b)
theorem eqL_len {a b : List ByteArray} (h : a.length ≠ b.length) : eqL a b = false := decide_eq_false (fun e => h (by rw [e]))
theorem eqL_no {a b : List ByteArray} (k : Nat) (h1 : k < a.length) (h2 : k < b.length) (h : ¬ a[k] = b[k]) : eqL a b = false := decide_eq_false (fun e => h (by subst e; rfl))
theorem eqL_yes {a b : List ByteArray} (hl : a.length = b.length) (h : ∀ k (h1 : k < a.length) (h2 : k < b.length), a[k] = b[k]) : eqL a b = true := decide_eq_true (List.ext_getElem hl (fun k h1 h2 => h k h1 h2))

set_option maxRecDepth 20000 in
set_option maxHeartbeats 1000000 in
theorem slicesEqual_any (v v' : Value) (x y : List ByteArray) (w : World) (h : SliceS w v x) (h' : SliceS w v' y) (hl : x.length ≤ 1000000000) (_hl' : y.length ≤ 1000000000) :
    Calls Tryd.prog 45 #[v, v'] w fun e w' => e = .returned (.bool (eqL x y)) ∧ Below w.heap.size w w' := by
  obtain ⟨a, cap, rfl, _, hx⟩ := h
  obtain ⟨a', cap', rfl, _, hy⟩ := h'
  by_cases hn : x.length = y.length
  · by_cases h0 : x.length = 0
    · have hy0 : y.length = 0 := by omega
      have e1 : eqL x y = true := eqL_yes hn (fun k h1 _ => by omega)
      rw [e1, h0, hy0]
      go_enter Tryd.func45, Tryd.ntmps45
      go_wp2
      refine wp_loop_rounds 1 ?_
      rw [rounds_succ]
      go_wp2
      go_ret
      exact ⟨rfl, Below.refl _ _⟩
    · obtain ⟨b, off, rfl, _, hX⟩ := hx (by omega)
      obtain ⟨b', off', rfl, _, hY⟩ := hy (by omega)
      have HX := hide hX
      have HY := hide hY
      obtain ⟨T, hT⟩ : ∃ T, eqL x y = T := ⟨_, rfl⟩
      rw [hT]
      have HT := hide hT
      have Hn := hide hn
      have hnz : ((x.length : Int) == (y.length : Int)) = true := by simp [hn]
      rw [← hn]
      clear hX hY hT hx hy hn
      go_enter Tryd.func45, Tryd.ntmps45
      go_wp2
      go_loopw [5, 13] (fun _ i w1 => ∃ j n : Nat, j ≤ x.length ∧ i = .int .i64 j ∧ Hid (w1 = w.drewN n) ∧ Hid (∀ k (h1 : k < x.length) (h2 : k < y.length), k < j → x[k] = y[k])) (fun _ i _ => x.length - (intOf i).toNat)
      case atStart => exact ⟨0, 0, by omega, rfl, rfl, fun k _ _ hk => by omega⟩
      case round =>
        obtain ⟨j, n, hj, rfl, HW, hall⟩ := hrel
        have hcl : ∀ a, wr.cell? a = w.cell? a := fun a => by rw [HW.out]; simp
        by_cases hlt : j < x.length
        · have hlt' : j < y.length := by rw [← Hn.out]; exact hlt
          have c0 := HX.out j hlt
          have d0 := HY.out j hlt'
          rw [← hcl] at c0 d0
          have hltz : (j : Int) < x.length := by omega
          by_cases e : x[j] = y[j]
          · have hall' : Hid (∀ k (h1 : k < x.length) (h2 : k < y.length), k < j + 1 → x[k] = y[k]) := fun k h1 h2 hk => by
              by_cases e' : k = j
              · subst e'; exact e
              · exact hall.out k h1 h2 (by omega)
            rw [← e] at d0
            generalize x[j] = z at c0 d0
            have hb : (z.toList == z.toList) = true := by simp
            clear hcl e hall
            go_wp2
            go_quiet (fail)
            go_wp2
            go_roundw
            case rel => exact ⟨j + 1, n + nq, by omega, by go_num, by show _ = _; rw [HW.out, World.drewN_drewN], hall'⟩
            case measure => simp [intOf]; omega
          · have hTf : T = false := by rw [← HT.out]; exact eqL_no j hlt hlt' e
            subst hTf
            have hb := eqB_false e
            generalize x[j] = z at c0 hb
            generalize y[j] = z' at d0 hb
            clear hcl e hall HT
            go_wp2
            go_quiet (fail)
            go_wp2
            go_ret
            exact ⟨rfl, by rw [HW.out, World.drewN_drewN]; exact below_drewN (Below.refl _ _) _⟩
        · have hTt : T = true := by rw [← HT.out]; exact eqL_yes Hn.out (fun k h1 h2 => hall.out k h1 h2 (by omega))
          subst hTt
          clear hcl HT hall
          go_wp2
          go_ret
          exact ⟨rfl, by rw [HW.out]; exact below_drewN (Below.refl _ _) n⟩
  · rw [eqL_len hn]
    have hnz : ((x.length : Int) == (y.length : Int)) = false := beq_eq_false_iff_ne.2 (by omega)
    clear hx hy hn
    go_enter Tryd.func45, Tryd.ntmps45
    go_wp2
    go_ret
    exact ⟨rfl, Below.refl _ _⟩
end Go.Proofs.YticcbaapbnfmmaaDoor
