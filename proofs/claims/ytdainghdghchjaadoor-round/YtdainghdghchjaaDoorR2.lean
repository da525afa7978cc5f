/-
  MATHEMATICS of the reader, 2: the list of what must come, taken apart.
-/
import Derived.Test.YtdainghdghchjaaDoorR1
namespace Go.Proofs.YtdainghdghchjaaDoor
open Go.RowKit

structure Pt where
  left : Bs
  pos : Nat
  gr : Gr
/-- A failure: what, and where; or a point and more. -/
inductive Ex (α : Type) where
  | no (e : Int) (p : Nat)
  | yes (a : α)
def Ex.then {α β : Type} (x : Ex α) (f : α → Ex β) : Ex β := match x with
  | .no e p => .no e p
  | .yes a => f a
def one (i : It) (x : Pt) : Ex (Pt × List It) := match cutF x.left i.most with
  | .wait => .no 2 (x.pos + x.left.length)
  | .bad e => .no e x.pos
  | .ok s rest n => match takeF x.gr i ⟨s.toArray⟩ with
    | .err e => .no e x.pos
    | .more g push => .yes (⟨rest, x.pos + n, g⟩, push)
def exec : Nat → List It → Pt → Ex Pt
  | _, [], x => .yes x
  | 0, _ :: _, x => .no 2 (x.pos + x.left.length)
  | f + 1, i :: K, x => (one i x).then fun y => exec f (y.2 ++ K) y.1
theorem one_len {i : It} {x y : Pt} {l : List It} (h : one i x = .yes (y, l)) : y.left.length + 8 ≤ x.left.length ∧ y.pos + y.left.length = x.pos + x.left.length := by
  unfold one at h
  split at h
  · cases h
  · cases h
  · rename_i s rest n hc
    have hl := cutF_len hc
    split at h
    · cases h
    · injection h with h; injection h with h1 h2; subst h1
      simp only; omega
theorem one_none (i : It) (x : Pt) (h : x.left.length < 8) : one i x = .no 2 (x.pos + x.left.length) := by
  unfold one cutF; rw [if_pos h]
theorem exec_fuel : ∀ (f g : Nat) (K : List It) (x : Pt), x.left.length ≤ f → x.left.length ≤ g → exec f K x = exec g K x
  | f, g, [], x, _, _ => by cases f <;> cases g <;> rfl
  | 0, 0, _ :: _, _, _, _ => rfl
  | 0, g + 1, i :: K, x, h, _ => by simp only [exec]; rw [one_none i x (by omega)]; rfl
  | f + 1, 0, i :: K, x, _, h => by simp only [exec]; rw [one_none i x (by omega)]; rfl
  | f + 1, g + 1, i :: K, x, hf, hg => by
    simp only [exec]
    cases h : one i x with
    | no e p => rfl
    | yes y =>
      obtain ⟨y, l⟩ := y
      have := one_len h
      exact exec_fuel f g (l ++ K) y (by omega) (by omega)
/-- Enough fuel. -/
def run (K : List It) (x : Pt) : Ex Pt := exec x.left.length K x
theorem run_nil (x : Pt) : run [] x = .yes x := by unfold run; cases x.left.length <;> rfl
theorem run_of (f : Nat) (K : List It) (x : Pt) (h : x.left.length ≤ f) : exec f K x = run K x := exec_fuel _ _ _ _ h (Nat.le_refl _)
theorem run_cons (i : It) (K : List It) (x : Pt) : run (i :: K) x = (one i x).then fun y => run (y.2 ++ K) y.1 := by
  rw [← run_of (x.left.length + 1) _ _ (by omega)]
  simp only [exec]
  cases h : one i x with
  | no e p => rfl
  | yes y =>
    obtain ⟨y, l⟩ := y
    have := one_len h
    exact run_of _ _ _ (by show y.left.length ≤ _; omega)
theorem run_append : ∀ (f : Nat) (K L : List It) (x : Pt), x.left.length ≤ f → run (K ++ L) x = (run K x).then (run L)
  | f, [], L, x, _ => by rw [run_nil]; rfl
  | 0, i :: K, L, x, h => by
    rw [List.cons_append, run_cons, run_cons, one_none i x (by omega)]; rfl
  | f + 1, i :: K, L, x, hf => by
    rw [List.cons_append, run_cons, run_cons]
    cases h : one i x with
    | no e p => rfl
    | yes y =>
      obtain ⟨y, l⟩ := y
      have := one_len h
      show run (l ++ (K ++ L)) y = (run (l ++ K) y).then (run L)
      rw [← List.append_assoc]
      exact run_append f (l ++ K) L y (by omega)
theorem run_app (K L : List It) (x : Pt) : run (K ++ L) x = (run K x).then (run L) := run_append _ K L x (Nat.le_refl _)
theorem run_then (i : It) (K : List It) (x : Pt) : run (i :: K) x = (run [i] x).then (run K) := run_app [i] K x

/-- What is told of bytes that have all come. -/
def told : Ex Pt → List Nd × Int × Nat
  | .no e p => ([], e, p)
  | .yes x => if x.left = [] then (x.gr.nodes, 0, 0) else ([], 10, x.pos)
theorem close_run : ∀ (f : Nat) (left : Bs) (pos : Nat) (K : List It) (g : Gr), left.length ≤ f → closeF (runS f ⟨left, pos, K, g⟩) = told (exec f K ⟨left, pos, g⟩)
  | 0, left, pos, K, g, h => by
    have h0 : left = [] := List.eq_nil_of_length_eq_zero (by omega)
    subst h0
    cases K with
    | nil => simp [runS, closeF, exec, told]
    | cons i K => simp [runS, closeF, exec, told]
  | f + 1, left, pos, [], g, h => by
    simp only [runS, stepF]
    by_cases h0 : left = []
    · subst h0; simp [closeF, exec, told]
    · rw [if_neg h0]; simp [closeF, exec, told, h0]
  | f + 1, left, pos, i :: K, g, h => by
    simp only [runS, stepF, exec, one]
    cases hc : cutF left i.most with
    | wait => simp [closeF, told, Ex.then]
    | bad e => simp [closeF, told, Ex.then]
    | ok s rest n =>
      have hl := cutF_len hc
      simp only
      cases ht : takeF g i ⟨s.toArray⟩ with
      | err e => simp [closeF, told, Ex.then]
      | more g' push => simp only [Ex.then]; exact close_run f rest (pos + n) (push ++ K) g' (by omega)
theorem readF_run (s : Bs) : readF s = told (run [.word wNar, .bracket] ⟨s, 0, ⟨[], [], ⟨#[]⟩⟩⟩) := by
  unfold readF rd0 feedF run
  simp only [List.length_nil, Nat.zero_add, St.add, List.nil_append]
  exact close_run _ _ _ _ _ (Nat.le_refl _)

/-! a string that was written is cut out again -/
theorem num8_le : ∀ (k H : Nat), num8 (le (H : Int) k) = H % 256 ^ k := by
  intro k
  have key : ∀ (k : Nat) (H : Nat) (j : Nat), num8 ((List.range' j k).map (byteAt (H : Int))) = H / 256 ^ j % 256 ^ k := by
    intro k
    induction k with
    | zero => intro H j; simp [num8, Nat.mod_one]
    | succ k ih =>
      intro H j
      rw [List.range'_succ, List.map_cons, num8, ih H (j + 1)]
      have hb : (byteAt (H : Int) j).toNat = H / 256 ^ j % 256 := by
        have := byteAt_val (H : Int) j
        have e : ((2 : Int) ^ (8 * j)) = ((256 ^ j : Nat) : Int) := by rw [Int.natCast_pow, Int.pow_mul]; rfl
        rw [e] at this
        omega
      rw [hb, Nat.pow_succ, ← Nat.div_div_eq_div_mul]
      have h2 := Nat.mod_mul (x := H / 256 ^ j) (a := 256) (b := 256 ^ k)
      rw [Nat.pow_succ, Nat.mul_comm (256 ^ k) 256, h2]
  intro H
  have := key k H 0
  simp only [Nat.pow_zero, Nat.div_one] at this
  rw [← this]
  unfold le
  rw [List.range_eq_range']
theorem enc_len (l : Bs) : (enc l).length = wholeOf l.length := by simp [enc, le_length, wholeOf]; omega
theorem enc_take (l rest : Bs) : (enc l ++ rest).take 8 = le (l.length : Int) 8 := by
  unfold enc
  rw [List.append_assoc, List.append_assoc]
  exact List.take_left' (le_length _ _)
theorem cut_enc (s rest : Bs) (m : Nat) (hm : s.length ≤ m) (hs : s.length < 18446744073709551616) : cutF (enc s ++ rest) m = .ok s rest (enc s).length := by
  have hn : num8 ((enc s ++ rest).take 8) = s.length := by
    rw [enc_take, num8_le]; exact Nat.mod_eq_of_lt (by simpa using hs)
  have hl : (enc s ++ rest).length = wholeOf s.length + rest.length := by rw [List.length_append, enc_len]
  have hg := wholeOf_ge s.length
  have hdrop : (enc s ++ rest).drop (wholeOf s.length) = rest := by rw [← enc_len]; exact List.drop_left
  have htake : (enc s ++ rest).take (wholeOf s.length) = enc s := by rw [← enc_len]; exact List.take_left
  unfold cutF
  rw [hn, if_neg (by omega), if_neg (by omega), if_neg (by omega), htake, hdrop, enc_len]
  have hd8 : (enc s ++ rest).drop 8 = s ++ (List.replicate (padLen s.length) 0 ++ rest) := by
    unfold enc
    rw [List.append_assoc, List.append_assoc, List.drop_left' (le_length _ _)]
  have hd : (enc s).drop (8 + s.length) = List.replicate (padLen s.length) 0 := by
    unfold enc
    exact List.drop_left' (by rw [List.length_append, le_length])
  rw [if_pos (by rw [hd]; simp), hd8, List.take_left]
/-- What was cut out was written so. -/
theorem num8_lt : ∀ (l : Bs), num8 l < 256 ^ l.length
  | [] => by simp [num8]
  | b :: r => by
    have h1 := num8_lt r
    have h2 := b.toNat_lt
    rw [num8, List.length_cons, Nat.pow_succ]
    omega
theorem le_num8 (l : Bs) : le (num8 l : Int) l.length = l := by
  have key : ∀ (l : Bs) (H j : Nat), H / 256 ^ j % 256 ^ l.length = num8 l → (List.range' j l.length).map (byteAt (H : Int)) = l := by
    intro l
    induction l with
    | nil => intro H j _; rfl
    | cons b r ih =>
      intro H j hh
      rw [List.length_cons, List.range'_succ, List.map_cons]
      rw [List.length_cons, Nat.pow_succ, Nat.mul_comm (256 ^ r.length) 256, Nat.mod_mul, num8] at hh
      have hbl := b.toNat_lt
      have h1 : H / 256 ^ j % 256 = b.toNat := by omega
      have h2 : H / 256 ^ j / 256 % 256 ^ r.length = num8 r := by omega
      have hb : (byteAt (H : Int) j).toNat = H / 256 ^ j % 256 := by
        have := byteAt_val (H : Int) j
        have e : ((2 : Int) ^ (8 * j)) = ((256 ^ j : Nat) : Int) := by rw [Int.natCast_pow, Int.pow_mul]; rfl
        rw [e] at this
        omega
      have e1 : byteAt (H : Int) j = b := by rw [← UInt8.toNat_inj, hb, h1]
      rw [e1, ih H (j + 1) (by rw [Nat.pow_succ, ← Nat.div_div_eq_div_mul]; exact h2)]
  have h := key l (num8 l) 0 (by rw [Nat.pow_zero, Nat.div_one]; exact Nat.mod_eq_of_lt (num8_lt l))
  unfold le
  rw [List.range_eq_range']; exact h
theorem cut_is_enc {l : Bs} {m : Nat} {s rest : Bs} {n : Nat} (h : cutF l m = .ok s rest n) : l = enc s ++ rest ∧ n = (enc s).length ∧ s.length ≤ m := by
  obtain ⟨h8, hm, hn, hnl, hs, hr, hz⟩ := cutF_ok h
  have hg := wholeOf_ge (num8 (l.take 8))
  have hsl : s.length = num8 (l.take 8) := by rw [hs, List.length_take, List.length_drop]; omega
  have h1 : le (s.length : Int) 8 = l.take 8 := by
    rw [hsl]
    have := le_num8 (l.take 8)
    rwa [List.length_take, Nat.min_eq_left h8] at this
  have hpad : (l.take n).drop (8 + num8 (l.take 8)) = List.replicate (padLen s.length) 0 := by
    rw [List.eq_replicate_iff]
    refine ⟨?_, fun b hb => ?_⟩
    · rw [List.length_drop, List.length_take, hn, hsl]; unfold wholeOf at *; omega
    · have := List.all_eq_true.1 hz b hb; simpa using this
  have e : enc s = l.take n := by
    unfold enc
    rw [h1, ← hpad, hs]
    have a1 : l.take n = l.take 8 ++ ((l.take n).drop 8) := by
      conv => lhs; rw [← List.take_append_drop 8 (l.take n)]
      rw [List.take_take, Nat.min_eq_left (by omega)]
    have a2 : (l.take n).drop 8 = (l.drop 8).take (num8 (l.take 8)) ++ (l.take n).drop (8 + num8 (l.take 8)) := by
      conv => lhs; rw [← List.take_append_drop (num8 (l.take 8)) ((l.take n).drop 8)]
      rw [List.drop_drop]
      congr 1
      rw [List.drop_take, List.take_take, Nat.min_eq_left (by omega)]
    conv => rhs; rw [a1, a2]
    rw [List.append_assoc]
  refine ⟨?_, ?_, by omega⟩
  · rw [e, hr]; exact (List.take_append_drop n l).symm
  · rw [enc_len, hn, hsl]
end Go.Proofs.YtdainghdghchjaaDoor
