import Derived.Test.YticcbaapbnfmmaaDoorP01
import Derived.Test.YticcbaapbnfmmaaDoorP03
namespace Go.Proofs.YticcbaapbnfmmaaDoor
open Go.RowKit

abbrev Bs := List UInt8
def bl (a b : Bs) : Bool := Op.bytesLess a b
theorem bl_nil (a : Bs) : bl a [] = false := by cases a <;> rfl
theorem bl_cons (a b : UInt8) (x y : Bs) : bl (a :: x) (b :: y) = (decide (a < b) || (a == b && bl x y)) := rfl
theorem bl_irr : ∀ a : Bs, bl a a = false
  | [] => rfl
  | a :: x => by rw [bl_cons, bl_irr x]; simp
theorem bl_tri : ∀ a b : Bs, bl a b = true ∨ a = b ∨ bl b a = true
  | [], [] => .inr (.inl rfl)
  | [], b :: y => .inl rfl
  | a :: x, [] => .inr (.inr rfl)
  | a :: x, b :: y => by
    rcases Nat.lt_trichotomy a.toNat b.toNat with h | h | h
    · left; rw [bl_cons]; simp [UInt8.lt_iff_toNat_lt, h]
    · have e : a = b := UInt8.toNat_inj.1 h
      subst e
      rcases bl_tri x y with h1 | h1 | h1
      · left; rw [bl_cons, h1]; simp
      · right; left; rw [h1]
      · right; right; rw [bl_cons, h1]; simp
    · right; right; rw [bl_cons]; simp [UInt8.lt_iff_toNat_lt, h]
theorem bl_trans : ∀ a b c : Bs, bl a b = true → bl b c = true → bl a c = true
  | [], [], c, h, _ => by cases h
  | _, _, [], _, h => by rw [bl_nil] at h; cases h
  | [], b :: y, c :: z, _, _ => rfl
  | a :: x, [], c :: z, h, _ => by cases h
  | a :: x, b :: y, c :: z, h1, h2 => by
    rw [bl_cons] at h1 h2 ⊢
    simp only [Bool.or_eq_true, decide_eq_true_eq, Bool.and_eq_true, beq_iff_eq, UInt8.lt_iff_toNat_lt] at h1 h2 ⊢
    rcases h1 with h1 | ⟨e1, h1⟩
    · rcases h2 with h2 | ⟨e2, h2⟩
      · left; omega
      · left; rw [← e2]; exact h1
    · rcases h2 with h2 | ⟨e2, h2⟩
      · left; rw [e1]; exact h2
      · right; exact ⟨e1.trans e2, bl_trans x y z h1 h2⟩
theorem bl_asym (a b : Bs) (h : bl a b = true) : bl b a = false := by
  cases hb : bl b a with
  | false => rfl
  | true => have := bl_trans a b a h hb; rw [bl_irr] at this; cases this
theorem bl_ne (a b : Bs) (h : bl a b = true) : a ≠ b := fun e => by subst e; rw [bl_irr] at h; cases h
theorem bl_empty (b : Bs) (h : b ≠ []) : bl [] b = true := by cases b with | nil => exact absurd rfl h | cons a x => rfl
theorem not_bl (a b : Bs) : (bl a b || a == b) = !(bl b a) := by
  rcases bl_tri a b with h | h | h
  · rw [h, bl_asym a b h]; rfl
  · subst h; rw [bl_irr]; simp
  · rw [h, bl_asym b a h]; have := (bl_ne b a h).symm; simp [this]

/-! paths -/
def preL (l : Bs) : Bs := l.take (cutL l)
def namL (l : Bs) : Bs := l.drop (cutL l)
def dirL (l : Bs) : Bs := if cutL l = 0 then [] else l.take (cutL l - 1)
def pin (p : Bs) : Bs := if p = [] then [] else p ++ [47]
theorem pin_nil : pin [] = [] := rfl
theorem pin_ne (p : Bs) (h : p ≠ []) : pin p = p ++ [47] := by simp [pin, h]
theorem pin_length (p : Bs) : p.length ≤ (pin p).length := by unfold pin; split <;> simp_all
theorem split_eq (l : Bs) : preL l ++ namL l = l := List.take_append_drop _ _
theorem cutL_append (d n : Bs) (h : ¬ (47 : UInt8) ∈ n) : cutL (d ++ n) = cutL d := by
  induction d with
  | nil =>
    rw [List.nil_append]
    refine cutL_zero n (fun i hi e => h (List.mem_of_getElem? e))
  | cons c t ih => simp only [List.cons_append, cutL, ih]
theorem cutL_slash (d : Bs) : cutL (d ++ [47]) = d.length + 1 := by
  refine cutL_at _ d.length (by simp) (by simp) (fun i h1 h2 => ?_)
  simp at h2; omega
theorem cutL_pin (p : Bs) : cutL (pin p) = (pin p).length := by
  unfold pin; split
  · rfl
  · rw [cutL_slash]; simp
theorem cutL_path (d n : Bs) (h : ¬ (47 : UInt8) ∈ n) : cutL (pin d ++ n) = (pin d).length := by rw [cutL_append _ _ h, cutL_pin]
theorem preL_path (d n : Bs) (h : ¬ (47 : UInt8) ∈ n) : preL (pin d ++ n) = pin d := by unfold preL; rw [cutL_path d n h]; simp
theorem namL_path (d n : Bs) (h : ¬ (47 : UInt8) ∈ n) : namL (pin d ++ n) = n := by unfold namL; rw [cutL_path d n h]; simp
theorem dirL_path (d n : Bs) (h : ¬ (47 : UInt8) ∈ n) : dirL (pin d ++ n) = d := by
  unfold dirL; rw [cutL_path d n h]
  by_cases hd : d = []
  · subst hd; rfl
  · rw [pin_ne d hd]; simp
/-- Behind the last '/' there is none. -/
theorem namL_no : ∀ l : Bs, ¬ (47 : UInt8) ∈ namL l
  | [] => by simp [namL]
  | c :: t => by
    have ih := namL_no t
    unfold namL at ih ⊢
    simp only [cutL]
    split
    · simpa using ih
    · rename_i h
      have h0 : cutL t = 0 := by omega
      rw [h0] at ih
      split
      · simpa using ih
      · rename_i hc
        simp only [List.drop_zero, List.mem_cons, not_or] at ih ⊢
        exact ⟨fun e => hc e.symm, ih⟩
theorem cutL_get : ∀ (l : Bs), 0 < cutL l → l[cutL l - 1]? = some 47
  | [], h => by cases h
  | c :: t, h => by
    have ih := cutL_get t
    simp only [cutL] at h ⊢
    split
    · rename_i h1
      have := ih h1
      rw [show cutL t + 1 - 1 = (cutL t - 1) + 1 by omega]
      simpa using this
    · rename_i h1
      rw [if_neg h1] at h
      split
      · rename_i hc
        simp [hc]
      · rename_i hc
        rw [if_neg hc] at h
        omega
/-- Where a path does not open with '/', what stands ahead of its name is its directory's. -/
theorem preL_dir (l : Bs) (h : l.head? ≠ some 47) : preL l = pin (dirL l) := by
  by_cases h0 : cutL l = 0
  · simp [preL, dirL, h0, pin]
  · have hg := cutL_get l (by omega)
    have hle := cutL_le l
    have h1 : cutL l ≠ 1 := fun e => by
      rw [e] at hg
      apply h
      rw [List.head?_eq_getElem?]
      exact hg
    have hd : dirL l = l.take (cutL l - 1) := by simp [dirL, h0]
    have hne : dirL l ≠ [] := fun e => by
      rw [hd] at e
      have := congrArg List.length e
      rw [List.length_take, List.length_nil] at this
      omega
    rw [pin_ne _ hne, hd]
    unfold preL
    obtain ⟨m, hm⟩ : ∃ m, cutL l = m + 1 := ⟨cutL l - 1, by omega⟩
    rw [hm] at hg ⊢
    simp only [Nat.add_sub_cancel] at hg ⊢
    have hml : m < l.length := by omega
    rw [List.take_succ_eq_append_getElem hml]
    rw [List.getElem?_eq_getElem hml] at hg
    rw [Option.some.inj hg]
def belL (p d : Bs) : Bool := if d = [] then !p.isEmpty else decide (d.length < p.length) && (p.take (d.length + 1) == d ++ [47])
theorem below_of (d r : Bs) (h : r ≠ []) : belL (pin d ++ r) d = true := by
  unfold belL
  by_cases hd : d = []
  · subst hd; rw [if_pos rfl, pin_nil]; cases r with | nil => exact absurd rfl h | cons a b => rfl
  · rw [if_neg hd, pin_ne d hd]
    have : (d ++ [47] ++ r).take (d.length + 1) = d ++ [47] := by
      rw [List.take_append_of_le_length (by simp)]
      exact List.take_of_length_le (by simp)
    rw [this]; simp
theorem below_elim (p d : Bs) (hd : d ≠ []) (h : belL p d = true) : ∃ r, p = d ++ [47] ++ r := by
  unfold belL at h
  rw [if_neg hd, Bool.and_eq_true, beq_iff_eq] at h
  exact ⟨p.drop (d.length + 1), by rw [← h.2, List.take_append_drop]⟩
/-- The name behind a directory that leads to a path. -/
def firstC (d p : Bs) : Option Bs := if pin d <+: p then some ((p.drop (pin d).length).takeWhile (· != 47)) else none
theorem firstC_path (d n t : Bs) (h : ¬ (47 : UInt8) ∈ n) (ht : t = [] ∨ ∃ u, t = 47 :: u) : firstC d (pin d ++ n ++ t) = some n := by
  unfold firstC
  rw [if_pos ⟨n ++ t, by rw [List.append_assoc]⟩, List.append_assoc, List.drop_left]
  have hw : ∀ n : Bs, ¬ (47 : UInt8) ∈ n → (n ++ t).takeWhile (· != 47) = n := by
    intro n hn
    induction n with
    | nil => rcases ht with rfl | ⟨u, rfl⟩ <;> simp
    | cons a b ih =>
      simp only [List.mem_cons, not_or] at hn
      simp only [List.cons_append]
      rw [List.takeWhile_cons_of_pos (by simpa using fun e => hn.1 e.symm), ih hn.2]
  rw [hw n h]
end Go.Proofs.YticcbaapbnfmmaaDoor
namespace Go.Proofs.YticcbaapbnfmmaaDoor
open Go.RowKit

def np (n : Nd) : Bs := n.path.data.toList
def stepS (dir name : Bs) (st : Option Bool) (y : Nd) : Option Bool := match st with
  | none => none
  | some b => if np y = dir ∧ y.kind = 4 then some true else if b = false then some false else if belL (np y) dir = false then none else if dirL (np y) = dir ∧ bl (namL (np y)) name = false then none else some true
def scan (dir name : Bs) (l : List Nd) : Option Bool := l.foldl (stepS dir name) (some false)
theorem scan_snoc (dir name : Bs) (l : List Nd) (x : Nd) : scan dir name (l ++ [x]) = stepS dir name (scan dir name l) x := by simp [scan]
theorem scan_none (dir name : Bs) (l : List Nd) (h : ∀ y ∈ l, np y ≠ dir) : scan dir name l = some false := by
  unfold scan
  induction l with
  | nil => rfl
  | cons y r ih =>
    have h1 := h y (List.mem_cons_self)
    have : stepS dir name (some false) y = some false := by simp [stepS, h1]
    rw [List.foldl_cons, this]
    exact ih (fun z hz => h z (List.mem_cons_of_mem _ hz))

structure OInv (l : List Nd) (D : List (Bs × Bs)) : Prop where
  root : ∀ d la : Bs, D[0]? = some (d, la) → d = []
  chain : ∀ (i : Nat) (d la d' la' : Bs), D[i]? = some (d, la) → D[i + 1]? = some (d', la') → d' = pin d ++ la ∧ la ≠ [] ∧ ¬ (47 : UInt8) ∈ la
  yes : ∀ (i : Nat) (d la : Bs), D[i]? = some (d, la) → ∀ name : Bs, name ≠ [] → (scan d name l = some true ↔ bl la name = true)
  no : ∀ dir name : Bs, (∀ (i : Nat) (d la : Bs), D[i]? = some (d, la) → d ≠ dir) → scan dir name l ≠ some true
  comp : ∀ y ∈ l, ∀ (i : Nat) (d la : Bs), D[i]? = some (d, la) → ∀ c : Bs, firstC d (np y) = some c → c = la ∨ bl c la = true

theorem OInv.up {l : List Nd} {D : List (Bs × Bs)} (h : OInv l D) {i : Nat} {d la : Bs} (hi : D[i]? = some (d, la)) : ∀ (k : Nat) (d' la' : Bs), D[i + 1 + k]? = some (d', la') →
    ∃ t, d' = pin d ++ la ++ t ∧ (t = [] ∨ ∃ u, t = 47 :: u) ∧ la ≠ [] ∧ ¬ (47 : UInt8) ∈ la
  | 0, d', la', hk => by
    obtain ⟨h1, h2, h3⟩ := h.chain i d la d' la' hi hk
    exact ⟨[], by rw [h1, List.append_nil], .inl rfl, h2, h3⟩
  | k + 1, d', la', hk => by
    have hlt : i + 1 + k < D.length := by
      have := (List.getElem?_eq_some_iff.1 hk).1
      omega
    obtain ⟨⟨e, le⟩, he⟩ : ∃ x, D[i + 1 + k]? = some x := ⟨_, List.getElem?_eq_getElem hlt⟩
    obtain ⟨t, h1, h2, h3, h4⟩ := h.up hi k e le he
    obtain ⟨g1, g2, g3⟩ := h.chain (i + 1 + k) e le d' la' he hk
    have hne : e ≠ [] := by rw [h1]; simp [h3]
    rw [pin_ne e hne, h1] at g1
    refine ⟨t ++ [47] ++ le, by rw [g1]; simp [List.append_assoc], ?_, h3, h4⟩
    rcases h2 with rfl | ⟨u, rfl⟩
    · exact .inr ⟨le, rfl⟩
    · exact .inr ⟨u ++ [47] ++ le, by simp⟩
theorem OInv.up' {l : List Nd} {D : List (Bs × Bs)} (h : OInv l D) {i j : Nat} {d la d' la' : Bs} (hi : D[i]? = some (d, la)) (hj : D[j]? = some (d', la')) (hij : i < j) :
    ∃ t, d' = pin d ++ la ++ t ∧ (t = [] ∨ ∃ u, t = 47 :: u) ∧ la ≠ [] ∧ ¬ (47 : UInt8) ∈ la := by
  obtain ⟨k, rfl⟩ : ∃ k, j = i + 1 + k := ⟨j - (i + 1), by omega⟩
  exact h.up hi k d' la' hj
theorem OInv.len {l : List Nd} {D : List (Bs × Bs)} (h : OInv l D) {i j : Nat} {d la d' la' : Bs} (hi : D[i]? = some (d, la)) (hj : D[j]? = some (d', la')) (hij : i < j) : d.length < d'.length := by
  obtain ⟨t, rfl, _, h2, _⟩ := h.up' hi hj hij
  have := pin_length d
  have : 0 < la.length := List.length_pos_iff.2 h2
  simp only [List.length_append]; omega
theorem OInv.inj {l : List Nd} {D : List (Bs × Bs)} (h : OInv l D) {i j : Nat} {d la la' : Bs} (hi : D[i]? = some (d, la)) (hj : D[j]? = some (d, la')) : i = j := by
  rcases Nat.lt_trichotomy i j with hlt | he | hlt
  · have := h.len hi hj hlt; omega
  · exact he
  · have := h.len hj hi hlt; omega
theorem pin_inj (a b : Bs) (h : pin a = pin b) : a = b := by
  unfold pin at h
  by_cases ha : a = []
  · by_cases hb : b = []
    · rw [ha, hb]
    · rw [if_pos ha, if_neg hb] at h; simp at h
  · by_cases hb : b = []
    · rw [if_neg ha, if_pos hb] at h; simp at h
    · rw [if_neg ha, if_neg hb] at h; exact List.append_cancel_right h
theorem OInv.depth {l : List Nd} {D : List (Bs × Bs)} (h : OInv l D) : ∀ (i : Nat) (d la : Bs), D[i]? = some (d, la) → (pin d).count 47 = i
  | 0, d, la, hi => by rw [h.root d la hi]; rfl
  | i + 1, d', la', hj => by
    have hlt : i < D.length := by
      have := (List.getElem?_eq_some_iff.1 hj).1
      omega
    obtain ⟨⟨d, la⟩, hi⟩ : ∃ x, D[i]? = some x := ⟨_, List.getElem?_eq_getElem hlt⟩
    obtain ⟨g1, g2, g3⟩ := h.chain i d la d' la' hi hj
    have ih := h.depth i d la hi
    have hne : d' ≠ [] := by rw [g1]; simp [g2]
    rw [pin_ne d' hne, g1, List.count_append, List.count_append, ih, List.count_eq_zero.2 g3]
    rfl
theorem OInv.head {l : List Nd} {D : List (Bs × Bs)} (h : OInv l D) {i : Nat} {d la : Bs} (hi : D[i]? = some (d, la)) : d.head? ≠ some 47 := by
  cases i with
  | zero => rw [h.root d la hi]; simp
  | succ i =>
    have hlt : 0 < D.length := by
      have := (List.getElem?_eq_some_iff.1 hi).1
      omega
    obtain ⟨⟨d0, la0⟩, h0⟩ : ∃ x, D[0]? = some x := ⟨_, List.getElem?_eq_getElem hlt⟩
    obtain ⟨t, rfl, _, h2, h3⟩ := h.up' h0 hi (by omega)
    rw [h.root d0 la0 h0, pin_nil]
    cases la0 with
    | nil => exact absurd rfl h2
    | cons c r => simp only [List.nil_append, List.cons_append, List.head?_cons, ne_eq, Option.some.injEq]; exact fun e => h3 (by rw [e]; simp)

def newD (D : List (Bs × Bs)) (a : Nat) (d nm : Bs) (x : Nd) : List (Bs × Bs) := D.take a ++ [(d, nm)] ++ (if x.kind = 4 then [(np x, [])] else [])
theorem newD_get (D : List (Bs × Bs)) (a : Nat) (d nm : Bs) (x : Nd) (ha : a < D.length) (i : Nat) (e le : Bs) (h : (newD D a d nm x)[i]? = some (e, le)) :
    (i < a ∧ D[i]? = some (e, le)) ∨ (i = a ∧ e = d ∧ le = nm) ∨ (i = a + 1 ∧ x.kind = 4 ∧ e = np x ∧ le = []) := by
  have hl : (D.take a).length = a := by rw [List.length_take]; omega
  unfold newD at h
  rw [List.append_assoc] at h
  rcases Nat.lt_trichotomy i a with hi | hi | hi
  · left
    rw [List.getElem?_append_left (by omega), List.getElem?_take_of_lt hi] at h
    exact ⟨hi, h⟩
  · right; left
    rw [List.getElem?_append_right (by omega), hl, hi, Nat.sub_self] at h
    simp at h
    exact ⟨hi, h.1.symm, h.2.symm⟩
  · right; right
    rw [List.getElem?_append_right (by omega), hl] at h
    obtain ⟨k, hk⟩ : ∃ k, i - a = k + 1 := ⟨i - a - 1, by omega⟩
    rw [hk, List.singleton_append, List.getElem?_cons_succ] at h
    split at h
    · cases k with
      | zero => simp at h; exact ⟨by omega, by assumption, h.1.symm, h.2⟩
      | succ k => simp at h
    · simp at h
theorem newD_low (D : List (Bs × Bs)) (a : Nat) (d nm : Bs) (x : Nd) (ha : a < D.length) (i : Nat) (hi : i < a) : (newD D a d nm x)[i]? = D[i]? := by
  have hl : (D.take a).length = a := by rw [List.length_take]; omega
  unfold newD
  rw [List.append_assoc, List.getElem?_append_left (by omega), List.getElem?_take_of_lt hi]
theorem newD_at (D : List (Bs × Bs)) (a : Nat) (d nm : Bs) (x : Nd) (ha : a < D.length) : (newD D a d nm x)[a]? = some (d, nm) := by
  have hl : (D.take a).length = a := by rw [List.length_take]; omega
  unfold newD
  rw [List.append_assoc, List.getElem?_append_right (by omega), hl, Nat.sub_self]
  rfl
theorem newD_new (D : List (Bs × Bs)) (a : Nat) (d nm : Bs) (x : Nd) (ha : a < D.length) (hx : x.kind = 4) : (newD D a d nm x)[a + 1]? = some (np x, []) := by
  have hl : (D.take a).length = a := by rw [List.length_take]; omega
  unfold newD
  rw [List.append_assoc, List.getElem?_append_right (by omega), hl, show a + 1 - a = 1 by omega, if_pos hx]
  rfl
theorem stepS_true (dir name : Bs) (st : Option Bool) (y : Nd) (hne : np y ≠ dir) (hb : belL (np y) dir = true) (hk : ¬ (dirL (np y) = dir ∧ bl (namL (np y)) name = false)) : stepS dir name st y = some true ↔ st = some true := by
  cases st with
  | none => simp [stepS]
  | some b => cases b <;> simp [stepS, hne, hb, hk]
theorem stepS_out (dir name : Bs) (st : Option Bool) (y : Nd) (h : ¬ (np y = dir ∧ y.kind = 4)) (hst : st ≠ some true) : stepS dir name st y ≠ some true := by
  cases st with
  | none => simp [stepS]
  | some b => cases b with
    | true => exact absurd rfl hst
    | false => simp only [stepS, if_neg h, if_true]; simp
theorem stepS_over (dir name : Bs) (st : Option Bool) (y : Nd) (h : np y ≠ dir) (hb : belL (np y) dir = false) : stepS dir name st y ≠ some true := by
  cases st with
  | none => simp [stepS]
  | some b => cases b <;> simp [stepS, h, hb]

theorem OInv.step {l : List Nd} {D : List (Bs × Bs)} (h : OInv l D) (x : Nd) (a : Nat) (d la nm : Bs) (ha : D[a]? = some (d, la)) (hx : np x = pin d ++ nm) (hn : nm ≠ []) (hn47 : ¬ (47 : UInt8) ∈ nm) (hlt : bl la nm = true) :
    OInv (l ++ [x]) (newD D a d nm x) := by
  have hal : a < D.length := (List.getElem?_eq_some_iff.1 ha).1
  have hxl : d.length < (np x).length := by
    rw [hx]; have := pin_length d; have : 0 < nm.length := List.length_pos_iff.2 hn; simp only [List.length_append]; omega
  have hdir : dirL (np x) = d := by rw [hx]; exact dirL_path d nm hn47
  have hnam : namL (np x) = nm := by rw [hx]; exact namL_path d nm hn47
  -- no node ahead has the path of x
  have hfresh : ∀ y ∈ l, ∀ t, (t = [] ∨ ∃ u, t = 47 :: u) → np y ≠ np x ++ t := fun y hy t ht e => by
    rw [hx] at e
    have hc := h.comp y hy a d la ha nm (by rw [e]; exact firstC_path d nm t hn47 ht)
    rcases hc with rfl | hc
    · rw [bl_irr] at hlt; cases hlt
    · rw [bl_asym _ _ hc] at hlt; cases hlt
  have hf0 : ∀ y ∈ l, np y ≠ np x := fun y hy e => hfresh y hy [] (.inl rfl) (by rw [e, List.append_nil])
  have hxne : np x ≠ [] := by rw [hx]; simp [hn]
  -- the directories further up
  have hup : ∀ i e le, i < a → D[i]? = some (e, le) → ∃ t, np x = pin e ++ le ++ (47 :: t) ∧ le ≠ [] ∧ ¬ (47 : UInt8) ∈ le := fun i e le hi he => by
    obtain ⟨t, h1, h2, h3, h4⟩ := h.up' he ha hi
    have hdne : d ≠ [] := by rw [h1]; simp [h3]
    rw [pin_ne d hdne, h1] at hx
    rcases h2 with rfl | ⟨u, rfl⟩
    · exact ⟨nm, by rw [hx]; simp [List.append_assoc], h3, h4⟩
    · exact ⟨u ++ [47] ++ nm, by rw [hx]; simp [List.append_assoc], h3, h4⟩
  refine ⟨?_, ?_, ?_, ?_, ?_⟩
  · intro e le he
    rcases newD_get D a d nm x hal 0 e le he with ⟨h1, h2⟩ | ⟨h1, h2, h3⟩ | ⟨h1, _⟩
    · exact h.root e le h2
    · subst h1; rw [h2]; exact h.root d la ha
    · omega
  · intro i e le e' le' he he'
    rcases newD_get D a d nm x hal (i + 1) e' le' he' with ⟨h1, h2⟩ | ⟨h1, h2, h3⟩ | ⟨h1, h2, h3, h4⟩
    · rw [newD_low D a d nm x hal i (by omega)] at he
      exact h.chain i e le e' le' he h2
    · rw [newD_low D a d nm x hal i (by omega)] at he
      subst h1
      rw [h2]
      exact h.chain i e le d la he ha
    · obtain rfl : i = a := by omega
      rw [newD_at D i d nm x hal] at he
      cases he
      exact ⟨by rw [h3, hx], hn, hn47⟩
  · intro i e le he name hname
    rw [scan_snoc]
    rcases newD_get D a d nm x hal i e le he with ⟨h1, h2⟩ | ⟨h1, h2, h3⟩ | ⟨h1, h2, h3, h4⟩
    · obtain ⟨t, g1, g2, g3⟩ := hup i e le h1 h2
      have hne : np x ≠ e := fun e1 => by
        have := pin_length e
        rw [g1] at e1; have := congrArg List.length e1; simp at this; omega
      have hb : belL (np x) e = true := by rw [g1, List.append_assoc]; exact below_of e _ (by simp)
      have hdl := h.len h2 ha h1
      rw [stepS_true _ _ _ _ hne hb (fun h => by rw [hdir] at h; rw [h.1] at hdl; omega)]
      exact h.yes i e le h2 name hname
    · rw [h2, h3]
      have hne : np x ≠ d := fun e1 => by rw [e1] at hxl; omega
      have hb : belL (np x) d = true := by rw [hx]; exact below_of d nm hn
      have hy := h.yes a d la ha name hname
      cases hnn : bl nm name with
      | true =>
        rw [stepS_true _ _ _ _ hne hb (fun h => by rw [hnam, hnn] at h; cases h.2), hy]
        exact ⟨fun _ => rfl, fun _ => bl_trans _ _ _ hlt hnn⟩
      | false =>
        refine ⟨fun hs => ?_, fun hs => by cases hs⟩
        exfalso
        revert hs
        cases scan d name l with
        | none => simp [stepS]
        | some b => cases b <;> simp [stepS, hne, hb, hdir, hnam, hnn]
    · rw [h3, h4, scan_none _ _ l hf0]
      refine ⟨fun _ => bl_empty name hname, fun _ => ?_⟩
      simp [stepS, h2]
  · intro dir name hno
    rw [scan_snoc]
    by_cases hin : ∃ (i : Nat) (la' : Bs), D[i]? = some (dir, la')
    · obtain ⟨i, la', hi⟩ := hin
      have hia : a < i := by
        rcases Nat.lt_trichotomy i a with h1 | h1 | h1
        · exact absurd rfl (hno i dir la' (by rw [newD_low D a d nm x hal i h1]; exact hi))
        · subst h1
          rw [ha] at hi; cases hi
          exact absurd rfl (hno i d nm (newD_at D i d nm x hal))
        · exact h1
      obtain ⟨t, g1, g2, g3, g4⟩ := h.up' ha hi hia
      have key : ∀ u, np x ≠ dir ++ u ∨ ¬ (u = [] ∨ ∃ v, u = 47 :: v) := fun u => by
        by_cases hu : u = [] ∨ ∃ v, u = 47 :: v
        · left
          intro e1
          rw [hx, g1, List.append_assoc, List.append_assoc] at e1
          have e2 := List.append_cancel_left e1
          have hfc := firstC_path [] la (t ++ u) g4 (by
            rcases g2 with rfl | ⟨v, rfl⟩
            · simpa using hu
            · exact .inr ⟨v ++ u, rfl⟩)
          rw [pin_nil, List.nil_append, ← e2] at hfc
          have hfn := firstC_path [] nm [] hn47 (.inl rfl)
          rw [pin_nil, List.nil_append, List.append_nil, hfc] at hfn
          cases hfn
          rw [bl_irr] at hlt; cases hlt
        · exact .inr hu
      have hne : np x ≠ dir := fun e1 => by
        rcases key [] with h1 | h1
        · exact h1 (by rw [List.append_nil]; exact e1)
        · exact h1 (.inl rfl)
      have hdne : dir ≠ [] := by rw [g1]; simp [g3]
      have hb : belL (np x) dir = false := by
        cases hb : belL (np x) dir with
        | false => rfl
        | true =>
          obtain ⟨r, e1⟩ := below_elim _ _ hdne hb
          rcases key (47 :: r) with h1 | h1
          · exact absurd (by rw [e1]; simp) h1
          · exact absurd (.inr ⟨r, rfl⟩) h1
      exact stepS_over _ _ _ _ hne hb
    · refine stepS_out _ _ _ _ (fun hc => ?_) (h.no dir name (fun i d' la' hi e1 => hin ⟨i, la', by rw [← e1]; exact hi⟩))
      exact hno (a + 1) (np x) [] (newD_new D a d nm x hal hc.2) hc.1
  · intro y hy i e le he c hc
    rcases newD_get D a d nm x hal i e le he with ⟨h1, h2⟩ | ⟨h1, h2, h3⟩ | ⟨h1, h2, h3, h4⟩
    · rcases List.mem_append.1 hy with hy | hy
      · exact h.comp y hy i e le h2 c hc
      · rw [List.mem_singleton] at hy
        subst hy
        obtain ⟨t, g1, g2, g3⟩ := hup i e le h1 h2
        rw [g1, firstC_path e le (47 :: t) g3 (.inr ⟨t, rfl⟩)] at hc
        cases hc
        exact .inl rfl
    · rw [h2] at hc
      rw [h3]
      rcases List.mem_append.1 hy with hy | hy
      · rcases h.comp y hy a d la ha c hc with rfl | h5
        · exact .inr hlt
        · exact .inr (bl_trans _ _ _ h5 hlt)
      · rw [List.mem_singleton] at hy
        subst hy
        have := firstC_path d nm [] hn47 (.inl rfl)
        rw [List.append_nil, ← hx, hc] at this
        exact .inl (Option.some.inj this)
    · rw [h3] at hc
      exfalso
      unfold firstC at hc
      split at hc
      · rename_i hpre
        obtain ⟨r, hr⟩ := hpre
        rw [pin_ne _ hxne] at hr
        rcases List.mem_append.1 hy with hy | hy
        · exact hfresh y hy (47 :: r) (.inr ⟨r, rfl⟩) (by rw [← hr]; simp)
        · rw [List.mem_singleton] at hy
          subst hy
          have := congrArg List.length hr
          simp at this
      · cases hc
end Go.Proofs.YticcbaapbnfmmaaDoor
