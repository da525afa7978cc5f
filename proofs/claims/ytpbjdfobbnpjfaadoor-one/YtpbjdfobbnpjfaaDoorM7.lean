/-
  PLAIN MATHEMATICS, 7: the order of bytes; paths.
-/
import Derived.Test.YtpbjdfobbnpjfaaDoorM1
namespace Go.Proofs.YtpbjdfobbnpjfaaDoor
open Go.RowKit

abbrev Bs := List UInt8
def bl (a b : Bs) : Bool := Op.bytesLess a b
theorem bl_nil (a : Bs) : bl a [] = false := by cases a <;> rfl
theorem bl_nil_cons (b : UInt8) (y : Bs) : bl [] (b :: y) = true := rfl
theorem bl_cons (a b : UInt8) (x y : Bs) : bl (a :: x) (b :: y) = (decide (a < b) || (a == b && bl x y)) := rfl
theorem bl_irr : ∀ a : Bs, bl a a = false
  | [] => rfl
  | a :: x => by rw [bl_cons, bl_irr x]; simp
theorem bl_tri : ∀ a b : Bs, bl a b = true ∨ a = b ∨ bl b a = true
  | [], [] => .inr (.inl rfl)
  | [], b :: y => .inl rfl
  | a :: x, [] => .inr (.inr rfl)
  | a :: x, b :: y => by
    rcases Nat.lt_trichotomy a.toNat b.toNat with h | h | h
    · left; rw [bl_cons]; simp [UInt8.lt_iff_toNat_lt, h]
    · have e : a = b := UInt8.toNat_inj.1 h
      subst e
      rcases bl_tri x y with h1 | h1 | h1
      · left; rw [bl_cons, h1]; simp
      · right; left; rw [h1]
      · right; right; rw [bl_cons, h1]; simp
    · right; right; rw [bl_cons]; simp [UInt8.lt_iff_toNat_lt, h]
theorem bl_trans : ∀ a b c : Bs, bl a b = true → bl b c = true → bl a c = true
  | [], [], c, h, _ => by cases h
  | _, _, [], _, h => by rw [bl_nil] at h; cases h
  | [], b :: y, c :: z, _, _ => rfl
  | a :: x, [], c :: z, h, _ => by cases h
  | a :: x, b :: y, c :: z, h1, h2 => by
    rw [bl_cons] at h1 h2 ⊢
    simp only [Bool.or_eq_true, decide_eq_true_eq, Bool.and_eq_true, beq_iff_eq, UInt8.lt_iff_toNat_lt] at h1 h2 ⊢
    rcases h1 with h1 | ⟨e1, h1⟩
    · rcases h2 with h2 | ⟨e2, h2⟩
      · left; omega
      · left; rw [← e2]; exact h1
    · rcases h2 with h2 | ⟨e2, h2⟩
      · left; rw [e1]; exact h2
      · right; exact ⟨e1.trans e2, bl_trans x y z h1 h2⟩
theorem bl_asym (a b : Bs) (h : bl a b = true) : bl b a = false := by
  cases hb : bl b a with
  | false => rfl
  | true => have := bl_trans a b a h hb; rw [bl_irr] at this; cases this
theorem bl_ne (a b : Bs) (h : bl a b = true) : a ≠ b := fun e => by subst e; rw [bl_irr] at h; cases h
theorem bl_empty (b : Bs) (h : b ≠ []) : bl [] b = true := by cases b with | nil => exact absurd rfl h | cons a x => rfl
theorem not_bl (a b : Bs) : (bl a b || a == b) = !(bl b a) := by
  rcases bl_tri a b with h | h | h
  · rw [h, bl_asym a b h]; rfl
  · subst h; rw [bl_irr]; simp
  · rw [h, bl_asym b a h]; have := (bl_ne b a h).symm; simp [this]

/-! paths -/
def preL (l : Bs) : Bs := l.take (cutL l)
def namL (l : Bs) : Bs := l.drop (cutL l)
def dirL (l : Bs) : Bs := if cutL l = 0 then [] else l.take (cutL l - 1)
def pin (p : Bs) : Bs := if p = [] then [] else p ++ [47]
theorem pin_nil : pin [] = [] := rfl
theorem pin_ne (p : Bs) (h : p ≠ []) : pin p = p ++ [47] := by simp [pin, h]
theorem pin_length (p : Bs) : p.length ≤ (pin p).length := by unfold pin; split <;> simp_all
theorem split_eq (l : Bs) : preL l ++ namL l = l := List.take_append_drop _ _
theorem cutL_append (d n : Bs) (h : ¬ (47 : UInt8) ∈ n) : cutL (d ++ n) = cutL d := by
  induction d with
  | nil =>
    rw [List.nil_append]
    refine cutL_zero n (fun i hi e => h (List.mem_of_getElem? e))
  | cons c t ih => simp only [List.cons_append, cutL, ih]
theorem cutL_slash (d : Bs) : cutL (d ++ [47]) = d.length + 1 := by
  refine cutL_at _ d.length (by simp) (by simp) (fun i h1 h2 => ?_)
  simp at h2; omega
theorem cutL_pin (p : Bs) : cutL (pin p) = (pin p).length := by
  unfold pin; split
  · rfl
  · rw [cutL_slash]; simp
theorem cutL_path (d n : Bs) (h : ¬ (47 : UInt8) ∈ n) : cutL (pin d ++ n) = (pin d).length := by rw [cutL_append _ _ h, cutL_pin]
theorem preL_path (d n : Bs) (h : ¬ (47 : UInt8) ∈ n) : preL (pin d ++ n) = pin d := by unfold preL; rw [cutL_path d n h]; simp
theorem namL_path (d n : Bs) (h : ¬ (47 : UInt8) ∈ n) : namL (pin d ++ n) = n := by unfold namL; rw [cutL_path d n h]; simp
theorem dirL_path (d n : Bs) (h : ¬ (47 : UInt8) ∈ n) : dirL (pin d ++ n) = d := by
  unfold dirL; rw [cutL_path d n h]
  by_cases hd : d = []
  · subst hd; rfl
  · rw [pin_ne d hd]; simp
/-- Behind the last '/' there is none. -/
theorem namL_no : ∀ l : Bs, ¬ (47 : UInt8) ∈ namL l
  | [] => by simp [namL]
  | c :: t => by
    have ih := namL_no t
    unfold namL at ih ⊢
    simp only [cutL]
    split
    · simpa using ih
    · rename_i h
      have h0 : cutL t = 0 := by omega
      rw [h0] at ih
      split
      · simpa using ih
      · rename_i hc
        simp only [List.drop_zero, List.mem_cons, not_or] at ih ⊢
        exact ⟨fun e => hc e.symm, ih⟩
theorem cutL_get : ∀ (l : Bs), 0 < cutL l → l[cutL l - 1]? = some 47
  | [], h => by cases h
  | c :: t, h => by
    have ih := cutL_get t
    simp only [cutL] at h ⊢
    split
    · rename_i h1
      have := ih h1
      rw [show cutL t + 1 - 1 = (cutL t - 1) + 1 by omega]
      simpa using this
    · rename_i h1
      rw [if_neg h1] at h
      split
      · rename_i hc
        simp [hc]
      · rename_i hc
        rw [if_neg hc] at h
        omega
/-- Where a path does not open with '/', what stands ahead of its name is its directory's. -/
theorem preL_dir (l : Bs) (h : l.head? ≠ some 47) : preL l = pin (dirL l) := by
  by_cases h0 : cutL l = 0
  · simp [preL, dirL, h0, pin]
  · have hg := cutL_get l (by omega)
    have hle := cutL_le l
    have h1 : cutL l ≠ 1 := fun e => by
      rw [e] at hg
      apply h
      rw [List.head?_eq_getElem?]
      exact hg
    have hd : dirL l = l.take (cutL l - 1) := by simp [dirL, h0]
    have hne : dirL l ≠ [] := fun e => by
      rw [hd] at e
      have := congrArg List.length e
      rw [List.length_take, List.length_nil] at this
      omega
    rw [pin_ne _ hne, hd]
    unfold preL
    obtain ⟨m, hm⟩ : ∃ m, cutL l = m + 1 := ⟨cutL l - 1, by omega⟩
    rw [hm] at hg ⊢
    simp only [Nat.add_sub_cancel] at hg ⊢
    have hml : m < l.length := by omega
    rw [List.take_succ_eq_append_getElem hml]
    rw [List.getElem?_eq_getElem hml] at hg
    rw [Option.some.inj hg]
def belL (p d : Bs) : Bool := if d = [] then !p.isEmpty else decide (d.length < p.length) && (p.take (d.length + 1) == d ++ [47])
theorem below_of (d r : Bs) (h : r ≠ []) : belL (pin d ++ r) d = true := by
  unfold belL
  by_cases hd : d = []
  · subst hd; rw [if_pos rfl, pin_nil]; cases r with | nil => exact absurd rfl h | cons a b => rfl
  · rw [if_neg hd, pin_ne d hd]
    have : (d ++ [47] ++ r).take (d.length + 1) = d ++ [47] := by
      rw [List.take_append_of_le_length (by simp)]
      exact List.take_of_length_le (by simp)
    rw [this]; simp
theorem below_elim (p d : Bs) (hd : d ≠ []) (h : belL p d = true) : ∃ r, p = d ++ [47] ++ r := by
  unfold belL at h
  rw [if_neg hd, Bool.and_eq_true, beq_iff_eq] at h
  exact ⟨p.drop (d.length + 1), by rw [← h.2, List.take_append_drop]⟩
theorem below_ne (p d : Bs) (h : belL p d = true) : p ≠ d := fun e => by
  subst e
  unfold belL at h
  split at h
  · rename_i h0; rw [h0] at h; cases h
  · simp at h
theorem below_trans (a b c : Bs) (h1 : belL a b = true) (h2 : belL b c = true) : belL a c = true := by
  by_cases hc : c = []
  · subst hc
    unfold belL
    rw [if_pos rfl]
    have : b ≠ [] := below_ne b [] h2
    obtain ⟨r, rfl⟩ := below_elim a b this h1
    cases b with | nil => exact absurd rfl this | cons x y => rfl
  · obtain ⟨r2, rfl⟩ := below_elim b c hc h2
    obtain ⟨r1, rfl⟩ := below_elim a _ (by simp) h1
    have := below_of c (r2 ++ [47] ++ r1) (by simp)
    rw [pin_ne c hc] at this
    simpa [List.append_assoc] using this
/-- The name behind a directory that leads to a path. -/
def firstC (d p : Bs) : Option Bs := if pin d <+: p then some ((p.drop (pin d).length).takeWhile (· != 47)) else none
theorem firstC_path (d n t : Bs) (h : ¬ (47 : UInt8) ∈ n) (ht : t = [] ∨ ∃ u, t = 47 :: u) : firstC d (pin d ++ n ++ t) = some n := by
  unfold firstC
  rw [if_pos ⟨n ++ t, by rw [List.append_assoc]⟩, List.append_assoc, List.drop_left]
  have hw : ∀ n : Bs, ¬ (47 : UInt8) ∈ n → (n ++ t).takeWhile (· != 47) = n := by
    intro n hn
    induction n with
    | nil => rcases ht with rfl | ⟨u, rfl⟩ <;> simp
    | cons a b ih =>
      simp only [List.mem_cons, not_or] at hn
      simp only [List.cons_append]
      rw [List.takeWhile_cons_of_pos (by simpa using fun e => hn.1 e.symm), ih hn.2]
  rw [hw n h]
end Go.Proofs.YtpbjdfobbnpjfaaDoor
