/-
  WALKS, 8: the document's answer: strings in bytes, paths.
-/
import Derived.Test.YticfcjmlphhpgaaDoorW4
import Derived.Test.YticfcjmlphhpgaaDoorM5
namespace Go.Proofs.YticfcjmlphhpgaaDoor
open Go.RowKit

/-- 'string([]byte{c})' of a block just laid. -/
theorem conv_oneV (w : World) (n : Int) (c : UInt8) (h : n = (c.toNat : Int)) :
    (convert 58 9 (.slice (some ⟨w.heap.size, 0, none⟩) 1 1)).run Tryd.prog (w.alloc (.cells #[.int .u8 n] 5)) = .ok (.string ⟨#[c]⟩) (w.alloc (.cells #[.int .u8 n] 5)) := by
  subst h
  exact run_convert_bytes_back (P := Tryd.prog) _ 58 9 5 ⟨w.heap.size, 0, none⟩ 1 [c] Tryd.underlying58 Tryd.underlying5 Tryd.underlying9 (fun j hj => by
    obtain rfl : j = 0 := by simp at hj; omega
    exact cell_one_new _ _ _ 0 _ rfl)
/-- '+' on two strings. -/
theorem add_str (a b : List UInt8) (w : World) (h : a.length + b.length ≤ 9223372036854775807) : (Op.stringOp .add ⟨a.toArray⟩ ⟨b.toArray⟩).run Tryd.prog w = .ok (.string ⟨(a ++ b).toArray⟩) w := by
  rw [run_string_add_sum]
  · rw [ByteArray.mk_append_mk]
  · simpa [ByteArray.size] using h

set_option maxRecDepth 20000 in
set_option maxHeartbeats 400000 in
theorem num_any (n : Int) (w : World) (h0 : 0 ≤ n) (h1 : n < 9223372036854775808) :
    Calls Tryd.prog 37 #[.int .i64 n] w fun e w' => e = .returned (.string ⟨(le n 8).toArray⟩) ∧ Below w.heap.size w w' := by
  go_enter Tryd.func37, Tryd.ntmps37
  go_wp2
  go_loopw [0, 3, 4] (fun m o i w1 => ∃ k : Nat, k ≤ 8 ∧ i = .int .i64 k ∧ m = .int .i64 (n / 2 ^ (8 * k)) ∧ Below w.heap.size w w1 ∧ o = .string ⟨(le n k).toArray⟩) (fun _ _ i _ => 8 - (intOf i).toNat)
  case atStart => exact ⟨0, by omega, rfl, by simp, Below.refl _ _, rfl⟩
  case round =>
    obtain ⟨k, hk, rfl, rfl, hbel, rfl⟩ := hrel
    have hr := shift_range n k h0 (by omega)
    have hr2 : n / 2 ^ (8 * k) ≤ n := Int.ediv_le_self _ h0
    by_cases hlt : k < 8
    · have hcv := conv_oneV wr (n / 2 ^ (8 * k) % 256) (byteAt n k) (byteAt_val n k).symm
      have hl := le_length n k
      have hadd : ∀ w1, (Op.stringOp .add ⟨(le n k).toArray⟩ ⟨#[byteAt n k]⟩).run Tryd.prog w1 = .ok (.string ⟨(le n (k + 1)).toArray⟩) w1 := fun w1 => by
        have := add_str (le n k) [byteAt n k] w1 (by simp; omega)
        rw [le_succ]; exact this
      have hsh := hide (shift_succ n k)
      clear hl
      generalize n / 2 ^ (8 * k) = x at hr hr2 hcv hsh
      have hx : x < 9223372036854775808 := by omega
      go_wp2
      go_roundw
      case rel => exact ⟨k + 1, by omega, by go_num, by rw [← hsh.out], hbel.alloc hbel.size _, rfl⟩
      case measure => simp [intOf]; omega
    · obtain rfl : k = 8 := by omega
      go_wp2
      go_ret
      exact ⟨rfl, hbel⟩

theorem size_of_dataV {s : ByteArray} {l : List UInt8} (h : s.data.toList = l) : s.size = l.length := by rw [← h]; simp
theorem data_appendV (a b : ByteArray) : (a ++ b).data.toList = a.data.toList ++ b.data.toList := by simp
theorem size_append (a b : ByteArray) : (a ++ b).size = a.size + b.size := by simp
def encB (s : ByteArray) : ByteArray := ⟨(enc s.data.toList).toArray⟩
theorem encB_data (s : ByteArray) : (encB s).data.toList = enc s.data.toList := by simp [encB]

set_option maxRecDepth 20000 in
set_option maxHeartbeats 400000 in
theorem Str_any (s : ByteArray) (w : World) (hs : s.size ≤ 1000000000000) :
    Calls Tryd.prog 21 #[.string s] w fun e w' => e = .returned (.string (encB s)) ∧ Below w.heap.size w w' := by
  have hpl : padLen s.size < 8 := by unfold padLen; omega
  have hpm : ∀ q, q ≤ padLen s.size → ((8 + s.size + q) % 8 = 0 ↔ q = padLen s.size) := fun q hq => by unfold padLen at hq ⊢; omega
  have hE : (encB s).data.toList = le (s.size : Int) 8 ++ s.data.toList ++ List.replicate (padLen s.size) 0 := by
    rw [encB_data]; unfold enc; rw [← size_of_dataV (rfl : s.data.toList = s.data.toList)]
  have HE := hide hE
  have HPM := hide hpm
  generalize padLen s.size = p at hpl HE HPM
  have cN := hide (num_any (s.size : Int) w (by omega) (by omega))
  obtain ⟨m, hm⟩ : ∃ m : ByteArray, m = ⟨(le (s.size : Int) 8).toArray⟩ := ⟨_, rfl⟩
  have hmd : m.data.toList = le (s.size : Int) 8 := by rw [hm]
  have hms : m.size = 8 := by rw [size_of_dataV hmd, le_length]
  rw [← hm] at cN
  have HMD := hide hmd
  have HMS := hide hms
  clear hE hpm hm hmd
  go_enter Tryd.func21, Tryd.ntmps21
  go_wp2_with fail
  refine cN.out.mono ?_
  rintro e w1 ⟨rfl, hb⟩
  clear cN
  have hsum : m.size + s.size ≤ 9223372036854775807 := by omega
  clear hms
  go_wp2
  go_loop [3] (fun o => ∃ (q : Nat) (t : ByteArray), q ≤ p ∧ o = .string t ∧ Hid (t.size = 8 + s.size + q) ∧ Hid (t.data.toList = le (s.size : Int) 8 ++ s.data.toList ++ List.replicate q 0)) (fun o => match o with | .string b => 100 + s.size - b.size | _ => 0)
  case atStart =>
    refine ⟨0, m ++ s, by omega, rfl, ?_, ?_⟩
    · show _ = _; rw [size_append, HMS.out]; omega
    · show _ = _; rw [data_appendV, HMD.out]; simp
  case round =>
    obtain ⟨q, t, hq, rfl, hts, htd⟩ := hrel
    have h1 := hts.out
    by_cases hqp : q = p
    · have hz : ((t.size : Int) % 8 != 0) = false := by
        have := (HPM.out q hq).2 hqp
        rw [h1]; simp; omega
      subst hqp
      have hfin : t = encB s := WideShapes.bytes_inj (by rw [htd.out, HE.out])
      subst hfin
      clear h1
      go_wp2
      go_ret
      exact ⟨rfl, hb⟩
    · have hz : ((t.size : Int) % 8 != 0) = true := by
        have := (HPM.out q hq).1
        rw [h1]; simp; omega
      have htl : t.size + 1 ≤ 9223372036854775807 := by omega
      have h2 : t.size < 100 + s.size := by omega
      clear h1
      go_wp2
      go_round
      case rel =>
        refine ⟨q + 1, t ++ ⟨#[0]⟩, by omega, rfl, ?_, ?_⟩
        · show _ = _; rw [size_append, hts.out]; rfl
        · show _ = _; rw [data_appendV, htd.out, List.replicate_succ']; simp
      case measure =>
        show 100 + s.size - (t ++ ⟨#[0]⟩).size < 100 + s.size - t.size
        rw [size_append]
        have : (⟨#[0]⟩ : ByteArray).size = 1 := rfl
        omega

def encsB (ss : List ByteArray) : ByteArray := ⟨(bytesOf ss).toArray⟩
theorem encsB_data (ss : List ByteArray) : (encsB ss).data.toList = bytesOf ss := by simp [encsB]
theorem bytesOf_take (ss : List ByteArray) (k : Nat) (h : k < ss.length) : bytesOf (ss.take (k + 1)) = bytesOf (ss.take k) ++ enc ss[k].data.toList := encs_take ss k h
theorem bytesOf_take_le (ss : List ByteArray) (k : Nat) : (bytesOf (ss.take k)).length ≤ (bytesOf ss).length := encs_take_le ss k

set_option maxRecDepth 20000 in
set_option maxHeartbeats 400000 in
theorem strs_any (b : Nat) (ss : List ByteArray) (w : World) (hb : w.heap[b]? = some (.cells (ss.map Value.string).toArray 9 (0, 0))) (hn : (bytesOf ss).length ≤ 1000000000000) (hss : ss.length ≤ 1000) :
    Calls Tryd.prog 38 #[.slice (some ⟨b, 0, none⟩) ss.length ss.length] w fun e w' => e = .returned (.string (encsB ss)) ∧ Below w.heap.size w w' := by
  have hbl := lt_of_block hb
  go_enter Tryd.func38, Tryd.ntmps38
  go_wp2
  go_loopw [3, 5, 8] (fun o _ i w1 => ∃ (k : Nat) (t : ByteArray), k ≤ ss.length ∧ i = .int .i64 k ∧ o = .string t ∧ Hid (t.data.toList = bytesOf (ss.take k)) ∧ Below w.heap.size w w1) (fun _ _ i _ => ss.length - (intOf i).toNat)
  case atStart => exact ⟨0, ⟨#[]⟩, by omega, rfl, rfl, rfl, Below.refl _ _⟩
  case round =>
    obtain ⟨k, t, hk, rfl, rfl, htd, hbel⟩ := hrel
    by_cases hlt : k < ss.length
    · have hcell : wr.cell? ⟨b, k, none⟩ = some (.string ss[k]) := by
        rw [hbel.cell (p := ⟨b, k, none⟩) hbl]
        simp [World.cell?, hb, hlt]
      have h1 := bytesOf_take ss k hlt
      have h2 := bytesOf_take_le ss (k + 1)
      have h3 : (bytesOf (ss.take (k + 1))).length = (bytesOf (ss.take k)).length + (enc ss[k].data.toList).length := by rw [h1, List.length_append]
      have h4 := size_of_dataV htd.out
      have h5 := size_of_dataV (encB_data ss[k])
      have h6 : ss[k].size + 8 ≤ (enc ss[k].data.toList).length := by
        simp only [enc, List.length_append, le_length, List.length_replicate, Array.length_toList]
        have : ss[k].data.size = ss[k].size := rfl
        omega
      have H1 := hide h1
      generalize hs : ss[k] = s at hcell h3 h5 h6 H1
      have hsum : t.size + (encB s).size ≤ 9223372036854775807 := by omega
      have hsb : s.size ≤ 1000000000000 := by omega
      clear h1 h2 h3 h4 h5 h6 hs
      go_wp2_with fail
      refine (Str_any s wr hsb).mono ?_
      rintro e w2 ⟨rfl, hb2⟩
      go_wp2
      go_roundw
      case rel =>
        refine ⟨k + 1, t ++ encB s, by omega, by go_num, rfl, ?_, hbel.trans (hb2.mono hbel.size)⟩
        show _ = _
        rw [data_appendV, htd.out, H1.out, encB_data]
      case measure => simp [intOf]; omega
    · obtain rfl : k = ss.length := by omega
      have hfin : t = encsB ss := WideShapes.bytes_inj (by rw [htd.out, encsB_data, List.take_length])
      subst hfin
      go_wp2
      go_ret
      exact ⟨rfl, hbel⟩

/-- A path's directory, as the document's answer has it. -/
def dirOf (s : ByteArray) : ByteArray := if cut s = 0 then ⟨#[]⟩ else s.extract 0 (cut s - 1)
theorem extract_all (s : ByteArray) : s.extract 0 s.size = s := by
  apply WideShapes.bytes_inj
  rw [Lib.extract_data]
  exact List.take_of_length_le (by simp)
theorem nam_of_zero (s : ByteArray) (h : cut s = 0) : nam s = s := by unfold nam; rw [h]; exact extract_all s

set_option maxRecDepth 20000 in
set_option maxHeartbeats 400000 in
theorem rsplit_any (s : ByteArray) (w : World) (hs : s.size ≤ 1000000000) : Calls Tryd.prog 33 #[.string s] w fun e w' => e = .returned (.tuple #[.string (dirOf s), .string (nam s)]) ∧ ∃ n, w' = w.drewN n := by
  obtain ⟨D, hD⟩ : ∃ D, dirOf s = D := ⟨_, rfl⟩
  obtain ⟨M, hM⟩ : ∃ M, nam s = M := ⟨_, rfl⟩
  rw [hD, hM]
  have HD := hide hD
  have HM := hide hM
  clear hD hM
  go_enter Tryd.func33, Tryd.ntmps33
  go_wp2
  go_loop [4] (fun i => ∃ j : Nat, j ≤ s.size ∧ i = .int .i64 ((j : Int) - 1) ∧ Hid (∀ i (hi : i < s.size), j ≤ i → s[i].toNat ≠ 47)) (fun i => (intOf i + 1).toNat)
  case atStart => exact ⟨s.size, Nat.le_refl _, rfl, fun i hi h => by omega⟩
  case round =>
    obtain ⟨j, hj, rfl, hr⟩ := hrel
    by_cases h0 : j = 0
    · have hcz : cut s = 0 := cut_none s (fun i hi => hr.out i hi (by omega))
      have hD2 : D = ⟨#[]⟩ := by rw [← HD.out]; simp [dirOf, hcz]
      have hM2 : M = s := by rw [← HM.out]; exact nam_of_zero s hcz
      clear HD HM hcz hr
      subst h0
      subst hD2
      subst hM2
      go_wp2
      go_ret2
      exact ⟨rfl, 0, rfl⟩
    · obtain ⟨j, rfl⟩ : ∃ q, j = q + 1 := ⟨j - 1, by omega⟩
      rw [show ((j + 1 : Nat) : Int) - 1 = (j : Int) by omega]
      have hlt : j < s.size := by omega
      by_cases h47 : s[j].toNat = 47
      · have hcz : cut s = j + 1 := cut_of s j hlt h47 (fun i hi h => hr.out i hi (by omega))
        have h47b : ((s[j].toNat : Int) == 47) = true := by simp [h47]
        have hD2 : D = s.extract 0 j := by rw [← HD.out]; simp [dirOf, hcz]
        have hM2 : M = s.extract (j + 1) s.size := by rw [← HM.out]; simp [nam, hcz]
        subst hD2
        subst hM2
        clear h47 hcz hr HD HM
        go_wp2
        go_quiet (fail)
        go_wp2
        go_ret2
        exact ⟨rfl, _, rfl⟩
      · have h47b : ((s[j].toNat : Int) == 47) = false := by simp; omega
        have hr' : Hid (∀ i (hi : i < s.size), j ≤ i → s[i].toNat ≠ 47) := fun i hi h => by
          by_cases e : i = j
          · subst e; exact h47
          · exact hr.out i hi (by omega)
        clear h47 hr
        go_wp2
        go_round
        case rel => exact ⟨j, by omega, rfl, hr'⟩
        case measure => simp [intOf]

/-- How many directories stand above a path. -/
def depthL (l : List UInt8) : Nat := if l = [] then 0 else 1 + l.count 47
set_option maxRecDepth 20000 in
set_option maxHeartbeats 400000 in
theorem depth_any (s : ByteArray) (w : World) (hs : s.size ≤ 1000000000) : Calls Tryd.prog 35 #[.string s] w fun e w' => e = .returned (.int .i64 (depthL s.data.toList : Int)) ∧ w' = w := by
  by_cases h : s.data.toList = []
  · have he : s.toList.isEmpty = true := by rw [ByteArray.toList_eq, h]; rfl
    have hd : depthL s.data.toList = 0 := by rw [h]; rfl
    rw [hd]
    clear hd h
    go_enter Tryd.func35, Tryd.ntmps35
    go_wp2
    go_ret
    exact ⟨rfl, rfl⟩
  · have he : s.toList.isEmpty = false := by rw [ByteArray.toList_eq]; cases hh : s.data.toList with | nil => exact absurd hh h | cons a t => rfl
    have hd : depthL s.data.toList = 1 + s.data.toList.count 47 := by simp [depthL, h]
    rw [hd]
    clear hd h
    go_enter Tryd.func35, Tryd.ntmps35
    go_wp2
    go_loop [3, 4] (fun n i => ∃ k q : Nat, k ≤ s.size ∧ q ≤ k ∧ i = .int .i64 k ∧ n = .int .i64 (1 + (q : Int)) ∧ Hid (q = (s.data.toList.take k).count 47)) (fun _ i => s.size - (intOf i).toNat)
    case atStart => exact ⟨0, 0, by omega, by omega, rfl, rfl, rfl⟩
    case round =>
      obtain ⟨k, q, hk, hq, rfl, rfl, hc⟩ := hrel
      by_cases hlt : k < s.size
      · have ht : s.data.toList.take (k + 1) = s.data.toList.take k ++ [s[k]] := by
          rw [List.take_succ_eq_append_getElem (by simpa using hlt)]; rfl
        have HT := hide ht
        clear ht
        by_cases h47 : s[k].toNat = 47
        · have h47b : ((s[k].toNat : Int) == 47) = true := by simp [h47]
          have h47u : Hid (s[k] = 47) := UInt8.toNat_inj.1 h47
          clear h47
          go_wp2
          go_round
          case rel => exact ⟨k + 1, q + 1, by omega, by omega, by go_num, by go_num, by show _ = _; rw [HT.out, List.count_append, ← hc.out, h47u.out]; rfl⟩
          case measure => simp [intOf]; omega
        · have h47b : ((s[k].toNat : Int) == 47) = false := by simp; omega
          have h47u : Hid (¬ s[k] = 47) := fun e => h47 (by rw [e]; rfl)
          clear h47
          go_wp2
          go_round
          case rel => exact ⟨k + 1, q, by omega, by omega, by go_num, rfl, by show _ = _; rw [HT.out, List.count_append, ← hc.out, List.count_cons, if_neg (by simpa using h47u.out)]; rfl⟩
          case measure => simp [intOf]; omega
      · obtain rfl : k = s.size := by omega
        have hf : q = s.data.toList.count 47 := by rw [hc.out, List.take_of_length_le (by simp)]
        subst hf
        go_wp2
        go_ret
        exact ⟨by go_num, rfl⟩

/-- Does a path stand within a directory? -/
def belowL (p d : List UInt8) : Bool := if d = [] then !p.isEmpty else decide (d.length < p.length) && (p.take (d.length + 1) == d ++ [47])
set_option maxRecDepth 20000 in
set_option maxHeartbeats 400000 in
theorem below_any (p d : ByteArray) (w : World) (_hp : p.size ≤ 1000000000) (hd : d.size ≤ 1000000000) : Calls Tryd.prog 36 #[.string p, .string d] w fun e w' => e = .returned (.bool (belowL p.data.toList d.data.toList)) ∧ w' = w := by
  by_cases h : d.data.toList = []
  · have he : d.toList.isEmpty = true := by rw [ByteArray.toList_eq, h]; rfl
    have hb : belowL p.data.toList d.data.toList = !p.toList.isEmpty := by simp only [belowL, if_pos h, ByteArray.toList_eq]
    rw [hb]
    clear hb h
    go_enter Tryd.func36, Tryd.ntmps36
    go_wp2
    go_ret
    exact ⟨rfl, rfl⟩
  · have he : d.toList.isEmpty = false := by rw [ByteArray.toList_eq]; cases hh : d.data.toList with | nil => exact absurd hh h | cons a t => rfl
    have hb : belowL p.data.toList d.data.toList = (decide (d.size < p.size) && ((p.extract 0 (d.size + 1)).toList == (d ++ ⟨#[47]⟩).toList)) := by
      simp only [belowL, if_neg h, ByteArray.toList_eq, Lib.extract_data, data_appendV]
      rfl
    rw [hb]
    clear hb h
    by_cases hl : d.size < p.size
    · have hlz : (d.size : Int) < p.size := by omega
      rw [decide_eq_true hl, Bool.true_and]
      go_enter Tryd.func36, Tryd.ntmps36
      go_wp2
      go_ret
      exact ⟨rfl, rfl⟩
    · have hlz : ¬ (d.size : Int) < p.size := by omega
      have hlb : decide ((d.size : Int) < p.size) = false := decide_eq_false hlz
      rw [decide_eq_false hl, Bool.false_and]
      go_enter Tryd.func36, Tryd.ntmps36
      go_wp2
      go_ret
      exact ⟨rfl, rfl⟩
end Go.Proofs.YticfcjmlphhpgaaDoor
