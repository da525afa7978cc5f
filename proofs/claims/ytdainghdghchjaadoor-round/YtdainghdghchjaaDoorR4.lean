/-
  MATHEMATICS of the reader, 4: what its states keep.
-/
import Derived.Test.YtdainghdghchjaaDoorR3
namespace Go.Proofs.YtdainghdghchjaaDoor
open Go.RowKit

def cntD : List It → Nat
  | [] => 0
  | .inDir :: r => cntD r + 1
  | _ :: r => cntD r
def nok : List It → Prop
  | [] => True
  | .name :: r => 0 < cntD r ∧ nok r
  | _ :: r => nok r
def needN : It → Bool
  | .kind => true
  | .inFile => true
  | .data => true
  | _ => false
/-- What every state keeps; tot: all bytes. -/
structure Inv (st : St) (tot : Nat) : Prop where
  sum : st.pos + st.left.length ≤ tot
  ll : st.list.length ≤ st.pos + 2
  ln : st.gr.nodes.length ≤ 30
  ld : st.gr.dirs.length ≤ st.pos
  lp : st.gr.path.size ≤ st.pos
  np : ∀ n ∈ st.gr.nodes, n.path.size ≤ st.pos
  dp : ∀ d ∈ st.gr.dirs, d.1.size ≤ st.pos
  cd : cntD st.list = st.gr.dirs.length
  nm : nok st.list
  nn : ∀ i ∈ st.list, needN i = true → st.gr.nodes ≠ []
theorem ba_size (s : Bs) : (⟨s.toArray⟩ : ByteArray).size = s.length := by simp [ByteArray.size]
theorem mem_setN {l : List Nd} {x n : Nd} (h : n ∈ setN l x) : n ∈ l ∨ n = x := List.mem_or_eq_of_mem_set h
theorem lastN_mem {l : List Nd} (h : l ≠ []) : lastN l ∈ l := by
  have := List.length_pos_iff.2 h
  have hk : l.length - 1 < l.length := by omega
  unfold lastN
  rw [List.getD_eq_getElem?_getD, List.getElem?_eq_getElem hk]
  exact List.getElem_mem _
theorem setN_len (l : List Nd) (x : Nd) : (setN l x).length = l.length := by simp [setN]
theorem setN_ne {l : List Nd} {x : Nd} (h : l ≠ []) : setN l x ≠ [] := fun e => by
  have := congrArg List.length e
  rw [setN_len] at this
  exact h (List.eq_nil_of_length_eq_zero this)
/-- The next item is met where it may stand. -/
theorem Inv.head {st : St} {tot : Nat} (h : Inv st tot) {i : It} {r : List It} (hl : st.list = i :: r) : (needN i = true → st.gr.nodes ≠ []) ∧ (i = .inDir ∨ i = .name → st.gr.dirs ≠ []) := by
  refine ⟨fun hn => h.nn i (by rw [hl]; exact List.mem_cons_self) hn, fun hi => ?_⟩
  have hc := h.cd
  rw [hl] at hc
  rcases hi with rfl | rfl
  · intro e; rw [e] at hc; simp [cntD] at hc
  · have hm := h.nm
    rw [hl] at hm
    intro e
    rw [e] at hc
    simp only [cntD, List.length_nil] at hc
    have := hm.1
    omega
theorem Inv.step {st st' : St} {tot : Nat} (h : Inv st tot) (hs : stepF st = .go st') : Inv st' tot := by
  have hgo := stepF_go hs
  obtain ⟨left, pos, list, gr⟩ := st
  cases list with
  | nil =>
    simp only [stepF] at hs
    split at hs <;> cases hs
  | cons i r =>
    obtain ⟨hN, hD⟩ := h.head rfl
    simp only at hN hD
    simp only [stepF] at hs
    cases hc : cutF left i.most with
    | wait => rw [hc] at hs; cases hs
    | bad e => rw [hc] at hs; cases hs
    | ok s rest n =>
      rw [hc] at hs
      simp only at hs
      have hcl := cutF_len hc
      cases ht : takeF gr i ⟨s.toArray⟩ with
      | err e => rw [ht] at hs; cases hs
      | more g push =>
        rw [ht] at hs
        simp only at hs
        injection hs with hs
        subst hs
        obtain ⟨hsum, hll, hln, hld, hlp, hnp, hdp, hcd, hnm, hnn⟩ := h
        simp only [List.length_cons] at hsum hll hln hld hlp hnp hdp hcd hnm hnn hgo
        have hnn' : ∀ j ∈ r, needN j = true → gr.nodes ≠ [] := fun j hj => hnn j (List.mem_cons_of_mem _ hj)
        have hnp' : ∀ x ∈ gr.nodes, x.path.size ≤ pos + n := fun x hx => by have := hnp x hx; omega
        have hdp' : ∀ d ∈ gr.dirs, d.1.size ≤ pos + n := fun d hd => by have := hdp d hd; omega
        cases i with
        | word w =>
          rw [take_word] at ht
          split at ht
          · injection ht with h1 h2; subst h1; subst h2
            exact ⟨by simp only; omega, by simp; omega, hln, by simp only; omega, by simp only; omega, hnp', hdp', hcd, hnm, hnn'⟩
          · cases ht
        | bracket =>
          rw [take_bracket] at ht
          split at ht
          · split at ht
            · cases ht
            · split at ht
              · cases ht
              · injection ht with h1 h2; subst h1; subst h2
                refine ⟨by simp only; omega, by simp; omega, by simp; omega, by simp only; omega, by simp only; omega, ?_, hdp', hcd, hnm, ?_⟩
                · intro x hx
                  rcases List.mem_append.1 hx with hx | hx
                  · exact hnp' x hx
                  · rw [List.mem_singleton] at hx; subst hx; simp only; omega
                · intro j _ _; simp
          · cases ht
        | kind =>
          have hne := hN rfl
          have hlast := hnp _ (lastN_mem hne)
          rw [take_kind] at ht
          split at ht
          · injection ht with h1 h2; subst h1; subst h2
            refine ⟨by simp only; omega, by simp; omega, by simp only [setN_len]; omega, by simp only; omega, by simp only; omega, ?_, hdp', hcd, hnm, fun j _ _ => setN_ne hne⟩
            intro x hx
            rcases mem_setN hx with hx | rfl
            · exact hnp' x hx
            · simp only; omega
          · split at ht
            · injection ht with h1 h2; subst h1; subst h2
              refine ⟨by simp only; omega, by simp; omega, by simp only [setN_len]; omega, by simp only; omega, by simp only; omega, ?_, hdp', hcd, hnm, fun j _ _ => setN_ne hne⟩
              intro x hx
              rcases mem_setN hx with hx | rfl
              · exact hnp' x hx
              · simp only; omega
            · split at ht
              · injection ht with h1 h2; subst h1; subst h2
                refine ⟨by simp only; omega, by simp; omega, by simp only [setN_len]; omega, by simp; omega, by simp only; omega, ?_, ?_, ?_, hnm, fun j _ _ => setN_ne hne⟩
                · intro x hx
                  rcases mem_setN hx with hx | rfl
                  · exact hnp' x hx
                  · simp only; omega
                · intro d hd
                  rcases List.mem_append.1 hd with hd | hd
                  · exact hdp' d hd
                  · rw [List.mem_singleton] at hd; subst hd
                    simp only
                    unfold prefixIn
                    split
                    · exact Nat.zero_le _
                    · rw [ByteArray.size_append]
                      have : (⟨#[47]⟩ : ByteArray).size = 1 := rfl
                      omega
                · simp only [List.cons_append, List.nil_append, cntD, List.length_append, List.length_singleton]
                  have : cntD r = gr.dirs.length := hcd
                  omega
              · cases ht
        | inFile =>
          have hne := hN rfl
          have hlast := hnp _ (lastN_mem hne)
          rw [take_inFile] at ht
          split at ht
          · injection ht with h1 h2; subst h1; subst h2
            refine ⟨by simp only; omega, by simp; omega, by simp only [setN_len]; omega, by simp only; omega, by simp only; omega, ?_, hdp', hcd, hnm, fun j _ _ => setN_ne hne⟩
            intro x hx
            rcases mem_setN hx with hx | rfl
            · exact hnp' x hx
            · simp only; omega
          · split at ht
            · injection ht with h1 h2; subst h1; subst h2
              exact ⟨by simp only; omega, by simp; omega, hln, by simp only; omega, by simp only; omega, hnp', hdp', hcd, hnm, fun j _ _ => hne⟩
            · cases ht
        | inDir =>
          have hcd' : cntD r + 1 = gr.dirs.length := hcd
          rw [take_inDir] at ht
          split at ht
          · injection ht with h1 h2; subst h1; subst h2
            refine ⟨by simp only; omega, by simp; omega, hln, by simp only; omega, by simp only; omega, hnp', hdp', hcd', ⟨by simp [cntD], hnm⟩, ?_⟩
            intro j hj hn
            simp at hj
            rcases hj with rfl | rfl | rfl | rfl | rfl | rfl | rfl | hj
            all_goals first | cases hn | exact hnn' j hj hn
          · split at ht
            · injection ht with h1 h2; subst h1; subst h2
              refine ⟨by simp only; omega, by simp; omega, hln, by simp; omega, by simp only; omega, hnp', fun d hd => hdp' d (List.mem_of_mem_take hd), ?_, hnm, hnn'⟩
              simp only [List.nil_append, List.length_take]; omega
            · cases ht
        | name =>
          rw [take_name] at ht
          have hne := hD (.inr rfl)
          split at ht
          · cases ht
          · split at ht
            · cases ht
            · injection ht with h1 h2; subst h1; subst h2
              have hld' : (lastD gr.dirs).1.size ≤ pos := by
                have hp := List.length_pos_iff.2 hne
                have hk : gr.dirs.length - 1 < gr.dirs.length := by omega
                have : lastD gr.dirs ∈ gr.dirs := by
                  unfold lastD
                  rw [List.getD_eq_getElem?_getD, List.getElem?_eq_getElem hk]
                  exact List.getElem_mem _
                exact hdp _ this
              refine ⟨by simp only; omega, by simp; omega, hln, by simp [setD]; omega, ?_, hnp', ?_, ?_, hnm.2, hnn'⟩
              · simp only [ByteArray.size_append, ba_size]; omega
              · intro d hd
                rcases List.mem_or_eq_of_mem_set hd with hd | rfl
                · exact hdp' d hd
                · simp only; omega
              · simp only [List.nil_append, setD, List.length_set]; exact hcd
        | data =>
          have hne := hN rfl
          have hlast := hnp _ (lastN_mem hne)
          rw [take_data] at ht
          split at ht
          · injection ht with h1 h2; subst h1; subst h2
            refine ⟨by simp only; omega, by simp; omega, by simp only [setN_len]; omega, by simp only; omega, by simp only; omega, ?_, hdp', hcd, hnm, fun j _ _ => setN_ne hne⟩
            intro x hx
            rcases mem_setN hx with hx | rfl
            · exact hnp' x hx
            · simp only; omega
          · cases ht
theorem Inv.add {st : St} {tot : Nat} (h : Inv st tot) (s : Bs) : Inv (st.add s) (tot + s.length) := by
  obtain ⟨a, b, c, d, e, f, g, i, j, k⟩ := h
  exact ⟨by simp [St.add]; omega, b, c, d, e, f, g, i, j, k⟩
theorem Inv.init : Inv ⟨[], 0, [.word wNar, .bracket], ⟨[], [], ⟨#[]⟩⟩⟩ 0 :=
  ⟨by simp, by simp, by simp, by simp, Nat.le_refl _, (fun n hn => by cases hn), (fun n hn => by cases hn), rfl, trivial, fun i hi hn => by
    simp at hi
    rcases hi with rfl | rfl <;> cases hn⟩
end Go.Proofs.YtdainghdghchjaaDoor
