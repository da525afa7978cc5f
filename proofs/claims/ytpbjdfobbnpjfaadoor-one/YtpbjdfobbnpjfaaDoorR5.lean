/-
  MATHEMATICS of the reader, 5: a byte less, a byte more.
-/
import Derived.Test.YtpbjdfobbnpjfaaDoorC18
import Derived.Test.YtpbjdfobbnpjfaaDoorB3
namespace Go.Proofs.YtpbjdfobbnpjfaaDoor
open Go.RowKit

theorem runS_stop : ∀ (f : Nat) (st st' : St), st.left.length ≤ f → runS f st = .ok st' → stepF st' = .stop ∧ st'.pos + st'.left.length = st.pos + st.left.length
  | 0, st, st', h, hr => by
    injection hr with hr
    subst hr
    refine ⟨?_, rfl⟩
    have h0 : st.left = [] := List.eq_nil_of_length_eq_zero (by omega)
    unfold stepF
    split
    · rw [if_pos h0]
    · rw [h0]; simp [cutF]
  | f + 1, st, st', h, hr => by
    simp only [runS] at hr
    cases hs : stepF st with
    | stop => rw [hs] at hr; injection hr with hr; subst hr; exact ⟨hs, rfl⟩
    | fail e p => rw [hs] at hr; cases hr
    | go st2 =>
      rw [hs] at hr
      have hg := stepF_go hs
      have ih := runS_stop f st2 st' (by omega) hr
      exact ⟨ih.1, by omega⟩
theorem runS_bad : ∀ (f : Nat) (st : St) (e : Int) (p : Nat), runS f st = .bad e p → (e == 0) = false
  | 0, st, e, p, hr => by cases hr
  | f + 1, st, e, p, hr => by
    simp only [runS] at hr
    cases hs : stepF st with
    | stop => rw [hs] at hr; cases hr
    | fail e' p' => rw [hs] at hr; injection hr with h1 h2; subst h1; exact stepF_ne hs
    | go st2 => rw [hs] at hr; exact runS_bad f st2 e p hr
theorem feed_ok {b : Bs} {st : St} (h : feedF rd0 b = .ok st) : stepF st = .stop ∧ st.pos + st.left.length = b.length := by
  have := runS_stop _ _ _ (by simp [St.add]) (show runS _ _ = .ok st from h)
  simpa [St.add] using this
theorem read_end {b : Bs} {l : List Nd} (h : readF b = (l, 0, 0)) : ∃ st, feedF rd0 b = .ok st ∧ st.list = [] ∧ st.left = [] ∧ st.pos = b.length := by
  unfold readF at h
  cases hf : feedF rd0 b with
  | bad e p =>
    rw [hf] at h
    have hne := runS_bad _ _ e p (show runS _ _ = .bad e p from hf)
    simp only [closeF, Prod.mk.injEq] at h
    rw [h.2.1] at hne
    cases hne
  | ok st =>
    rw [hf] at h
    obtain ⟨h1, h2⟩ := feed_ok hf
    by_cases hl : st.list = []
    · have hleft : st.left = [] := by
        unfold stepF at h1
        rw [hl] at h1
        simp only at h1
        by_cases h0 : st.left = []
        · exact h0
        · rw [if_neg h0] at h1; cases h1
      exact ⟨st, rfl, hl, hleft, by rw [hleft] at h2; simpa using h2⟩
    · simp only [closeF, if_neg hl, Prod.mk.injEq] at h
      have := h.2.1
      omega
theorem read_less {b c : Bs} {l : List Nd} (hc : c ≠ []) (h : readF (b ++ c) = (l, 0, 0)) : readF b = ([], 2, b.length) := by
  obtain ⟨st, hf, hl, hleft, hpos⟩ := read_end h
  rw [← feedF_app] at hf
  unfold readF
  cases hb : feedF rd0 b with
  | bad e p => rw [hb] at hf; cases hf
  | ok st1 =>
    rw [hb] at hf
    obtain ⟨h1, h2⟩ := feed_ok hb
    by_cases hl1 : st1.list = []
    · exfalso
      have hstep : stepF (st1.add c) = .fail 10 st1.pos := by
        unfold stepF St.add
        simp only [hl1]
        exact if_neg (by simp [hc])
      obtain ⟨k, hk⟩ : ∃ k, st1.left.length + c.length = k + 1 := ⟨st1.left.length + c.length - 1, by have := List.length_pos_iff.2 hc; omega⟩
      simp only [feedF, hk, runS, hstep] at hf
      cases hf
    · simp only [closeF, if_neg hl1, h2]
theorem read_more {b : Bs} {l : List Nd} (x : UInt8) (h : readF b = (l, 0, 0)) : readF (b ++ [x]) = ([], 10, b.length) := by
  obtain ⟨st, hf, hl, hleft, hpos⟩ := read_end h
  unfold readF
  rw [← feedF_app, hf]
  have hstep : stepF (st.add [x]) = .fail 10 st.pos := by
    unfold stepF St.add
    simp only [hl]
    exact if_neg (by simp)
  simp only [feedF, hleft, List.length_nil, List.length_singleton, Nat.zero_add, runS, hstep, closeF, hpos]
theorem one_mod {i : It} {x y : Pt} {l : List It} (h : one i x = .yes (y, l)) : (y.pos % 8 = x.pos % 8) := by
  unfold one at h
  split at h
  · cases h
  · cases h
  · rename_i s rest n hc
    have h3 := (cutF_ok hc).2.2.1
    split at h
    · cases h
    · injection h with h; injection h with h1 h2; subst h1
      simp only
      rw [h3]
      unfold wholeOf padLen
      omega
theorem exec_mod : ∀ (f : Nat) (K : List It) (x y : Pt), exec f K x = .yes y → y.pos % 8 = x.pos % 8
  | f, [], x, y, h => by cases f <;> (injection h with h; subst h; rfl)
  | 0, _ :: _, x, y, h => by cases h
  | f + 1, i :: K, x, y, h => by
    simp only [exec] at h
    cases ho : one i x with
    | no e p => rw [ho] at h; cases h
    | yes z =>
      obtain ⟨z, l⟩ := z
      rw [ho] at h
      have h1 := exec_mod f (l ++ K) z y h
      have h2 := one_mod ho
      omega
theorem pack_mod (l : List Nd) (Z : Ds) (hne : l ≠ []) (h : runF 0 [] l = some Z) : (packBytes l).length % 8 = 0 := by
  obtain ⟨g, _, hr⟩ := pack_reads l Z hne h
  have h1 := hr [] 0
  have h2 := exec_mod _ _ _ _ h1
  simpa using h2
theorem enc_ge (l : Bs) : 8 ≤ (enc l).length := by rw [enc_len]; have := wholeOf_ge l.length; omega
theorem pack_ge (l : List Nd) (hne : l ≠ []) : 64 ≤ (packBytes l).length := by
  cases l with
  | nil => exact absurd rfl hne
  | cons n r =>
    have a : (bytesOf [wNar]).length = 16 := by decide
    have b : (bytesOf [wClose]).length = 16 := by decide
    have c : 40 ≤ (bytesOf [wOpen, wType, wordOf n.kind]).length := by
      rw [bytes3]
      have h1 : (enc wOpen.data.toList).length = 16 := by decide
      have h2 : (enc wType.data.toList).length = 16 := by decide
      have h3 := enc_ge (wordOf n.kind).data.toList
      rw [List.length_append, List.length_append]; omega
    show 64 ≤ (bytesOf [wNar] ++ (nodeF (entsF r.length) n r).1).length
    unfold nodeF
    simp only [List.length_append]
    omega
theorem bulk_small : ∀ l : List Nd, (∀ n ∈ l, n.path.size ≤ 20000 ∧ n.data.size ≤ 20000) → bulk l ≤ l.length * 41000
  | [], _ => by simp [bulk]
  | n :: r, h => by
    have h1 := h n (List.mem_cons_self)
    have h2 := bulk_small r (fun x hx => h x (List.mem_cons_of_mem _ hx))
    rw [bulk, List.length_cons, Nat.add_mul]
    omega
theorem pack_le (l : List Nd) (hl : l.length ≤ 30) (h : ∀ n ∈ l, n.path.size ≤ 20000 ∧ n.data.size ≤ 20000) : (packBytes l).length ≤ 2000000 := by
  cases l with
  | nil => simp [packBytes]
  | cons n r =>
    have a : (bytesOf [wNar]).length = 16 := by decide
    have hb := bulk_small _ h
    have hn := nodeF_bulk (entsF r.length) (entsF_bulk r.length) n r
    show (bytesOf [wNar] ++ (nodeF (entsF r.length) n r).1).length ≤ 2000000
    rw [List.length_append]
    omega
end Go.Proofs.YtpbjdfobbnpjfaaDoor
