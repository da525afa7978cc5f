/-
  WALKS of the reader, 1: what cuts strings out of bytes.
-/
import Derived.Test.YtpbjdfobbnpjfaaDoorR1
import Derived.Laws.BitsAllLaws
namespace Go.Proofs.YtpbjdfobbnpjfaaDoor
open Go.RowKit

/-- Bytes in memory. -/
def BytesAt (w : World) (g o : Nat) (l : Bs) : Prop := ∀ i (h : i < l.length), w.cell? ⟨g, o + i, none⟩ = some (.int .u8 (l[i].toNat : Int))

set_option maxRecDepth 20000 in
set_option maxHeartbeats 400000 in
theorem allZero_any (w : World) (g o cap : Nat) (l : Bs) (h : BytesAt w g o l) (hl : l.length ≤ 1000000000000) :
    Calls Tryd.prog 58 #[.slice (some ⟨g, o, none⟩) l.length cap] w fun e w' => e = .returned (.bool (l.all (· == 0))) ∧ w' = w := by
  have H := hide h
  obtain ⟨Z, hZ⟩ : ∃ Z, l.all (· == 0) = Z := ⟨_, rfl⟩
  rw [hZ]
  have HZ := hide hZ
  clear h hZ
  go_enter Tryd.func58, Tryd.ntmps58
  go_wp2
  go_loop [4, 7] (fun _ i => ∃ k : Nat, k ≤ l.length ∧ i = .int .i64 k ∧ Hid ((l.take k).all (· == 0) = true)) (fun _ i => l.length - (intOf i).toNat)
  case atStart => exact ⟨0, by omega, rfl, by show _ = _; simp⟩
  case round =>
    obtain ⟨k, hk, rfl, ha⟩ := hrel
    by_cases hlt : k < l.length
    · have hc := H.out k hlt
      have hz : (k : Int) < l.length := by omega
      have htk : l.take (k + 1) = l.take k ++ [l[k]] := List.take_succ_eq_append_getElem hlt
      by_cases h0 : l[k] = 0
      · have hb : ((l[k].toNat : Int) == 0) = true := by rw [h0]; rfl
        have ha' : Hid ((l.take (k + 1)).all (· == 0) = true) := by
          show _ = _
          rw [htk, List.all_append, ha.out, h0]; rfl
        rw [h0] at hc
        clear h0 htk hb
        go_wp2
        go_round
        case rel => exact ⟨k + 1, by omega, by go_num, ha'⟩
        case measure => simp [intOf]; omega
      · have hne : ¬ (l[k].toNat : Int) = 0 := fun e => h0 (by rw [← UInt8.toNat_inj]; show l[k].toNat = 0; omega)
        have hf : l.all (· == 0) = false := by
          rw [Bool.eq_false_iff]
          intro e
          exact h0 (by simpa using List.all_eq_true.1 e l[k] (List.getElem_mem _))
        obtain rfl : Z = false := by rw [← HZ.out, hf]
        have hb : ((l[k].toNat : Int) == 0) = false := beq_eq_false_iff_ne.2 hne
        clear h0 htk hf ha
        go_wp2
        go_ret
        exact ⟨rfl, rfl⟩
    · obtain rfl : k = l.length := by omega
      have ha' := ha.out
      rw [List.take_length] at ha'
      obtain rfl : Z = true := by rw [← HZ.out, ha']
      clear ha ha'
      go_wp2
      go_ret
      exact ⟨rfl, rfl⟩

theorem num8_snoc : ∀ (l : Bs) (b : UInt8), num8 (l ++ [b]) = num8 l + b.toNat * 256 ^ l.length
  | [], b => by simp [num8]
  | a :: r, b => by
    rw [List.cons_append, num8, num8, num8_snoc r b, List.length_cons, Nat.pow_succ, Nat.mul_add, Nat.add_assoc]
    congr 2
    rw [Nat.mul_comm (256 ^ r.length) 256, ← Nat.mul_assoc, Nat.mul_comm 256 b.toNat, Nat.mul_assoc]
theorem or_step (a b k : Nat) (ha : a < 256 ^ k) (hb : b < 256) (hk : k < 8) : bits .or .u64 (a : Int) (IntKind.u64.wrap (IntKind.u64.wrap (b : Int) * 2 ^ (8 * k))) = ((a + b * 256 ^ k : Nat) : Int) := by
  have e256 : (256 : Nat) ^ k = 2 ^ (8 * k) := by rw [Nat.pow_mul]
  have hp : (256 : Nat) ^ k ≤ 256 ^ 7 := Nat.pow_le_pow_right (by omega) (by omega)
  have h7 : (256 : Nat) ^ 7 = 72057594037927936 := by decide
  have hpos : 0 < (256 : Nat) ^ k := Nat.pow_pos (by omega)
  have hb' : b * 256 ^ k ≤ 255 * 256 ^ k := Nat.mul_le_mul_right _ (by omega)
  have e1 : IntKind.u64.wrap (b : Int) = (b : Int) := by rw [IntKind.wrap_u64]; omega
  have e2 : (b : Int) * 2 ^ (8 * k) = ((b * 256 ^ k : Nat) : Int) := by rw [e256]; simp
  rw [e1, e2]
  generalize hP : (256 : Nat) ^ k = P at *
  have e3 : IntKind.u64.wrap ((b * P : Nat) : Int) = ((b * P : Nat) : Int) := by rw [IntKind.wrap_u64]; omega
  rw [e3, u64_or_nat a (b * P) (by omega) (by omega)]
  congr 1
  have := Nat.shiftLeft_add_eq_or_of_lt (b := a) (i := 8 * k) (by rw [← e256]; exact ha) b
  rw [Nat.shiftLeft_eq, ← e256] at this
  rw [Nat.or_comm, ← this, Nat.add_comm]
set_option maxRecDepth 20000 in
set_option maxHeartbeats 400000 in
theorem number_any (w : World) (g o : Nat) (l : Bs) (h : BytesAt w g o l) (hl : l.length = 8) :
    Calls Tryd.prog 57 #[.slice (some ⟨g, o, none⟩) 8 8] w fun e w' => e = .returned (.int .u64 (num8 l : Nat)) ∧ w' = w := by
  have H := hide h
  clear h
  go_enter Tryd.func57, Tryd.ntmps57
  go_wp2
  go_loop [3, 4, 5] (fun n _ i => ∃ k : Nat, k ≤ 8 ∧ i = .int .i64 k ∧ n = .int .u64 (num8 (l.take k) : Nat)) (fun _ _ i => 8 - (intOf i).toNat)
  case atStart => exact ⟨0, by omega, rfl, rfl⟩
  case round =>
    obtain ⟨k, hk, rfl, rfl⟩ := hrel
    by_cases hlt : k < 8
    · have hc := H.out k (by omega)
      have hb := or_step (num8 (l.take k)) l[k].toNat k (by have := num8_lt (l.take k); rwa [List.length_take, Nat.min_eq_left (by omega)] at this) l[k].toNat_lt hlt
      have hs := num8_snoc (l.take k) l[k]
      rw [← List.take_succ_eq_append_getElem (by omega), List.length_take, Nat.min_eq_left (by omega)] at hs
      rw [← hs] at hb
      have HB := hide hb
      clear hb hs
      go_wp2
      go_round
      case rel => exact ⟨k + 1, by omega, by go_num, by rw [HB.out]⟩
      case measure => simp [intOf]; omega
    · obtain rfl : k = 8 := by omega
      have e : l.take 8 = l := List.take_of_length_le (by omega)
      rw [e]
      go_wp2
      go_ret
      exact ⟨rfl, rfl⟩
end Go.Proofs.YtpbjdfobbnpjfaaDoor
