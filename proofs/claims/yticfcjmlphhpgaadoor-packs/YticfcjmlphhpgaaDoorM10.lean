/-
  MATHEMATICS, 10: the program's bytes of a tree are the document's.
-/
import Derived.Test.YticfcjmlphhpgaaDoorM9
import Derived.Test.YticfcjmlphhpgaaDoorW7
namespace Go.Proofs.YticfcjmlphhpgaaDoor
open Go.RowKit

def wFile : ByteArray := ⟨#[102, 105, 108, 101]⟩
def wLink : ByteArray := ⟨#[108, 105, 110, 107]⟩
def wDir : ByteArray := ⟨#[100, 105, 114]⟩
def under (c y : Nd) : Bool := belL (np y) (np c)
def refN (E : List Nd → Bs) (x : Nd) (F : List Nd) : Bs :=
  bytesOf [wOpen, wType] ++ (if x.kind = 1 then bytesOf [wFile, wData, x.data] else if x.kind = 2 then bytesOf [wFile, wExec, wNone, wData, x.data] else if x.kind = 3 then bytesOf [wLink, wTo, x.data] else bytesOf [wDir] ++ E F) ++ bytesOf [wClose]
def refE : Nat → List Nd → Bs
  | 0, _ => []
  | _ + 1, [] => []
  | f + 1, c :: F => bytesOf [wEntry, wOpen, wName, nam c.path, wNode] ++ refN (refE f) c (F.takeWhile (under c)) ++ bytesOf [wClose] ++ refE f (F.dropWhile (under c))
def refBytes : List Nd → Bs
  | [] => []
  | x :: F => bytesOf [wNar] ++ refN (refE F.length) x F

theorem scan_true (dir name : Bs) : ∀ (n : Nat) (l : List Nd), l.length = n → scan dir name l = some true → ∃ A q B, l = A ++ q :: B ∧ np q = dir ∧ q.kind = 4 ∧ ∀ z ∈ B, belL (np z) dir = true
  | 0, l, hl, h => by
    rw [List.eq_nil_of_length_eq_zero hl] at h
    cases h
  | n + 1, l, hl, h => by
    rcases List.eq_nil_or_concat l with rfl | ⟨l', x, rfl⟩
    · simp at hl
    · rw [List.concat_eq_append] at h hl ⊢
      rw [scan_snoc] at h
      by_cases hc : np x = dir ∧ x.kind = 4
      · exact ⟨l', x, [], rfl, hc.1, hc.2, fun z hz => by cases hz⟩
      · cases hs : scan dir name l' with
        | none => rw [hs] at h; cases h
        | some b =>
          rw [hs] at h
          cases b with
          | false => simp [stepS, hc] at h
          | true =>
            obtain ⟨A, q, B, rfl, h1, h2, h3⟩ := scan_true dir name n l' (by simpa using hl) hs
            have hb : belL (np x) dir = true := by
              cases hb : belL (np x) dir with
              | true => rfl
              | false => simp [stepS, hc, hb] at h
            refine ⟨A, q, B ++ [x], by simp, h1, h2, fun z hz => ?_⟩
            rcases List.mem_append.1 hz with hz | hz
            · exact h3 z hz
            · rw [List.mem_singleton] at hz; subst hz; exact hb

/-- A node whose path is its directory's, and a name. -/
def Wf (y : Nd) : Prop := np y = pin (dirL (np y)) ++ namL (np y) ∧ namL (np y) ≠ []
/-- What is in a directory, and in those within it, in order. -/
def Good (d : Bs) (F : List Nd) : Prop := ∀ A y B, F = A ++ y :: B → Wf y ∧ belL (np y) d = true ∧
  (dirL (np y) = d ∨ ∃ A1 q A2, A = A1 ++ q :: A2 ∧ np q = dirL (np y) ∧ q.kind = 4 ∧ ∀ z ∈ A2, belL (np z) (np q) = true)
theorem wf_below (y : Nd) (h : Wf y) : belL (np y) (dirL (np y)) = true := by
  have := below_of (dirL (np y)) (namL (np y)) h.2
  rwa [← h.1] at this
/-- A node right in d stands not below another of d's. -/
theorem not_under (c y : Nd) (hc : Wf c) (hy : Wf y) (he : dirL (np c) = dirL (np y)) : under c y = false := by
  cases h : under c y with
  | false => rfl
  | true =>
    have hne : np c ≠ [] := by rw [hc.1]; simp [hc.2]
    obtain ⟨r, hr⟩ := below_elim _ _ hne h
    rw [hy.1, hc.1, he, List.append_assoc, List.append_assoc] at hr
    have := List.append_cancel_left hr
    exact absurd (by rw [this]; simp) (namL_no (np y))
theorem Good.head {d : Bs} {c : Nd} {F : List Nd} (h : Good d (c :: F)) : Wf c ∧ belL (np c) d = true ∧ dirL (np c) = d := by
  obtain ⟨h1, h2, h3⟩ := h [] c F rfl
  refine ⟨h1, h2, ?_⟩
  rcases h3 with h3 | ⟨A1, q, A2, h4, _⟩
  · exact h3
  · simp at h4
theorem mem_tw {p : Nd → Bool} : ∀ {l : List Nd} {y : Nd}, y ∈ l.takeWhile p → p y = true
  | [], y, h => by simp at h
  | a :: r, y, h => by
    cases hp : p a with
    | false => simp [hp] at h
    | true =>
      simp only [List.takeWhile_cons, hp, if_true, List.mem_cons] at h
      rcases h with rfl | h
      · exact hp
      · exact mem_tw h
theorem split_while (c : Nd) (F : List Nd) : F = F.takeWhile (under c) ++ F.dropWhile (under c) := List.takeWhile_append_dropWhile.symm
theorem Good.sub {d : Bs} {c : Nd} {F : List Nd} (h : Good d (c :: F)) : Good (np c) (F.takeWhile (under c)) := by
  obtain ⟨hc1, hc2, hc3⟩ := h.head
  intro A y B e
  have hmem : y ∈ F.takeWhile (under c) := by rw [e]; simp
  have hu : under c y = true := mem_tw hmem
  obtain ⟨h1, h2, h3⟩ := h (c :: A) y (B ++ F.dropWhile (under c)) (by
    conv => lhs; rw [split_while c F, e]
    simp)
  refine ⟨h1, hu, ?_⟩
  rcases h3 with h3 | ⟨A1, q, A2, h4, h5, h6, h7⟩
  · exact absurd hu (by rw [not_under c y hc1 h1 (by rw [hc3, h3])]; decide)
  · cases A1 with
    | nil =>
      simp at h4
      left
      rw [h4.1]; exact h5.symm
    | cons a A1 =>
      simp at h4
      exact .inr ⟨A1, q, A2, h4.2, h5, h6, h7⟩
theorem Good.flat {d : Bs} {c : Nd} {F : List Nd} (h : Good d (c :: F)) (hk : c.kind ≠ 4) : F.takeWhile (under c) = [] := by
  obtain ⟨hc1, hc2, hc3⟩ := h.head
  cases hs : F.takeWhile (under c) with
  | nil => rfl
  | cons y B =>
    exfalso
    have hmem : y ∈ F.takeWhile (under c) := by rw [hs]; simp
    have hu : under c y = true := mem_tw hmem
    obtain ⟨h1, h2, h3⟩ := h [c] y (B ++ F.dropWhile (under c)) (by
      conv => lhs; rw [split_while c F, hs]
      simp)
    rcases h3 with h3 | ⟨A1, q, A2, h4, h5, h6, h7⟩
    · exact absurd hu (by rw [not_under c y hc1 h1 (by rw [hc3, h3])]; decide)
    · cases A1 with
      | nil => simp at h4; exact hk (by rw [h4.1]; exact h6)
      | cons a A1 => simp at h4
theorem drop_head (c : Nd) (F : List Nd) (z : Nd) (A : List Nd) (h : F.dropWhile (under c) = z :: A) : under c z = false := by
  have := List.head?_dropWhile_not (under c) F
  rw [h] at this
  simpa using this
theorem Good.rest {d : Bs} {c : Nd} {F : List Nd} (h : Good d (c :: F)) : Good d (F.dropWhile (under c)) := by
  obtain ⟨hc1, hc2, hc3⟩ := h.head
  intro A y B e
  obtain ⟨h1, h2, h3⟩ := h (c :: F.takeWhile (under c) ++ A) y B (by
    conv => lhs; rw [split_while c F, e]
    simp)
  refine ⟨h1, h2, ?_⟩
  rcases h3 with h3 | ⟨A1, q, A2, h4, h5, h6, h7⟩
  · exact .inl h3
  · have hq : q ∈ c :: F.takeWhile (under c) → ∀ z, belL (np z) (np q) = true → under c z = true := fun hq z hz => by
      rcases List.mem_cons.1 hq with rfl | hq
      · exact hz
      · exact below_trans _ _ _ hz (mem_tw hq)
    have hyq : belL (np y) (np q) = true := by rw [h5]; exact wf_below y h1
    have hcase : (∃ a', A = a' ++ q :: A2) ∨ (q ∈ c :: F.takeWhile (under c) ∧ ∃ S, A2 = S ++ A) := by
      rcases List.append_eq_append_iff.1 h4 with ⟨a', e1, e2⟩ | ⟨c', e1, e2⟩
      · exact .inl ⟨a', e2⟩
      · cases c' with
        | nil => exact .inl ⟨[], by simpa using e2.symm⟩
        | cons b S =>
          simp at e2
          refine .inr ⟨by rw [e1, e2.1]; simp, S, e2.2⟩
    rcases hcase with ⟨a', e1⟩ | ⟨hqm, S, e1⟩
    · exact .inr ⟨a', q, A2, e1, h5, h6, h7⟩
    · exfalso
      cases A with
      | nil =>
        have := drop_head c F y B e
        rw [hq hqm y hyq] at this; cases this
      | cons z A =>
        have := drop_head c F z _ e
        rw [hq hqm z (h7 z (by rw [e1]; simp))] at this; cases this

theorem bytesOf3 (a b c : ByteArray) (r : List ByteArray) : bytesOf (a :: b :: c :: r) = bytesOf [a, b] ++ bytesOf (c :: r) := bytesOf_append [a, b] (c :: r)
theorem node_eq (E : List Nd → ByteArray → List UInt8 × List Nd) (E' : List Nd → Bs) (x : Nd) (sub tail : List Nd) (hk : x.kind = 1 ∨ x.kind = 2 ∨ x.kind = 3 ∨ x.kind = 4)
    (h4 : x.kind = 4 → E (sub ++ tail) (prefixIn x.path) = (E' sub, tail)) (hs : x.kind ≠ 4 → sub = []) : nodeF E x (sub ++ tail) = (refN E' x sub, tail) := by
  unfold nodeF bodyF refN
  rcases hk with h | h | h | h
  · have := hs (by omega); subst this
    simp [h, bytesOf, encs, wordOf, wFile, List.append_assoc]
  · have := hs (by omega); subst this
    simp [h, bytesOf, encs, wordOf, wFile, List.append_assoc]
  · have := hs (by omega); subst this
    simp [h, bytesOf, encs, wordOf, wLink, List.append_assoc]
  · have e4 := h4 h
    simp [h, e4, bytesOf, encs, wordOf, wDir, List.append_assoc]

theorem ents_eq : ∀ (n : Nat) (F : List Nd) (d : Bs) (dB : ByteArray) (R : List Nd) (f g : Nat), F.length ≤ n → dB.data.toList = pin d → Good d F → Kinds F →
    (∀ y R', R = y :: R' → Wf y ∧ belL (np y) d = false) → (F ++ R).length ≤ f → F.length ≤ g → entsF f (F ++ R) dB = (refE g F, R)
  | n, [], d, dB, R, f, g, _, hdB, _, _, hR, hf, _ => by
    have hg : refE g [] = [] := by cases g <;> rfl
    rw [List.nil_append, hg]
    cases R with
    | nil => cases f <;> rfl
    | cons y R' =>
      cases f with
      | zero => simp at hf
      | succ f =>
        obtain ⟨hw, hb⟩ := hR y R' rfl
        have : pre y.path ≠ dB := fun e => by
          have e1 : preL (np y) = pin d := by rw [← hdB, ← e, pre_dataV]; rfl
          have e2 : np y = pin d ++ namL (np y) := by conv => lhs; rw [← split_eq (np y), e1]
          have := below_of d (namL (np y)) hw.2
          rw [← e2, hb] at this; cases this
        simp [entsF, this]
  | 0, c :: F, d, dB, R, f, g, hn, _, _, _, _, _, _ => by simp at hn
  | n + 1, c :: F, d, dB, R, f, g, hn, hdB, hG, hK, hR, hf, hg => by
    obtain ⟨hc1, hc2, hc3⟩ := hG.head
    cases f with
    | zero => simp at hf
    | succ f =>
      cases g with
      | zero => simp at hg
      | succ g =>
        have hln : F.length ≤ n := by simpa using hn
        have hlg : F.length ≤ g := by simpa using hg
        have hlf : F.length + R.length ≤ f := by simp at hf; omega
        have hpre : pre c.path = dB := WideShapes.bytes_inj (by
          rw [pre_dataV, hdB]
          have : np c = pin d ++ namL (np c) := by conv => lhs; rw [hc1.1, hc3]
          show preL (np c) = _
          rw [this]; exact preL_path d _ (namL_no _))
        have hsp := split_while c F
        have hls : (F.takeWhile (under c)).length + (F.dropWhile (under c)).length = F.length := by rw [← List.length_append, ← hsp]
        have hKs : Kinds (F.takeWhile (under c)) := fun y hy => hK y (List.mem_cons_of_mem _ ((List.takeWhile_sublist _).subset hy))
        have hKr : Kinds (F.dropWhile (under c)) := fun y hy => hK y (List.mem_cons_of_mem _ ((List.dropWhile_sublist _).subset hy))
        have hR2 : ∀ y R', F.dropWhile (under c) ++ R = y :: R' → Wf y ∧ belL (np y) (np c) = false := fun y R' e => by
          cases hr : F.dropWhile (under c) with
          | nil =>
            rw [hr, List.nil_append] at e
            obtain ⟨g1, g2⟩ := hR y R' e
            refine ⟨g1, ?_⟩
            cases hb : belL (np y) (np c) with
            | false => rfl
            | true => rw [below_trans _ _ _ hb hc2] at g2; cases g2
          | cons z A =>
            rw [hr, List.cons_append] at e
            cases e
            exact ⟨(hG.rest [] y A (by rw [hr]; rfl)).1, drop_head c F y A hr⟩
        have hcn : np c ≠ [] := by rw [hc1.1]; simp [hc1.2]
        have hnode : nodeF (entsF f) c (F ++ R) = (refN (refE g) c (F.takeWhile (under c)), F.dropWhile (under c) ++ R) := by
          have e : F ++ R = F.takeWhile (under c) ++ (F.dropWhile (under c) ++ R) := by rw [← List.append_assoc, ← hsp]
          rw [e]
          refine node_eq (entsF f) (refE g) c _ _ (hK c (List.mem_cons_self)) (fun _ => ?_) (fun hk => hG.flat hk)
          exact ents_eq n _ (np c) (prefixIn c.path) _ f g (by omega) (prefixIn_dataV c.path) hG.sub hKs hR2 (by simp only [List.length_append]; omega) (by omega)
        have hrest := ents_eq n (F.dropWhile (under c)) d dB R f g (by omega) hdB hG.rest hKr hR (by simp only [List.length_append]; omega) (by omega)
        simp only [List.cons_append, entsF, if_pos hpre, hnode, hrest, refE]

theorem wrongGo_all : ∀ (rest l : List Nd), wrongGo l rest = none → ∀ A y B, rest = A ++ y :: B → rightB (l ++ A) y = true
  | [], l, _, A, y, B, e => by simp at e
  | x :: r, l, h, A, y, B, e => by
    simp only [wrongGo] at h
    split at h
    · rename_i h1
      cases A with
      | nil => simp at e; rw [List.append_nil, ← e.1]; exact h1
      | cons a A =>
        simp at e
        have := wrongGo_all r (l ++ [x]) h A y B e.2
        rw [← e.1]
        simpa using this
    · cases h
theorem good_root (x : Nd) (F : List Nd) (h : wrongGo [] (x :: F) = none) : np x = [] ∧ (x.kind = 4 → Good [] F) ∧ Kinds (x :: F) := by
  have hall := wrongGo_all _ _ h
  have hx := hall [] x F rfl
  simp only [List.nil_append, rightB, if_true, Bool.and_eq_true] at hx
  have hx0 : np x = [] := by simpa using hx.2
  refine ⟨hx0, fun hk => ?_, fun y hy => ?_⟩
  · intro A y B e
    have hy := hall (x :: A) y B (by rw [e]; simp)
    simp only [List.nil_append, rightB, Bool.and_eq_true] at hy
    rw [if_neg (by simp)] at hy
    obtain ⟨h1, h2, h3, h4, h5⟩ := (condB_iff _ _).1 hy.2
    have hw : Wf y := ⟨by conv => lhs; rw [← split_eq (np y), preL_dir _ h2], isNameB_ne _ h3⟩
    refine ⟨hw, ?_, ?_⟩
    · unfold belL; rw [if_pos rfl]; cases hh : np y with | nil => exact absurd hh h1 | cons a b => rfl
    · obtain ⟨A1, q, A2, e1, g1, g2, g3⟩ := scan_true _ _ _ _ rfl h5
      cases A1 with
      | nil => simp at e1; left; rw [← g1, ← e1.1]; exact hx0
      | cons a A1 => simp at e1; exact .inr ⟨A1, q, A2, e1.2, g1, g2, by rw [g1]; exact g3⟩
  · obtain ⟨A, B, e⟩ := List.append_of_mem hy
    have hy := hall A y B e
    simp only [rightB, Bool.and_eq_true] at hy
    exact fits_kind _ _ hy.1.2
/-- THE PROGRAM's BYTES OF A TREE ARE THE DOCUMENT's. -/
theorem packBytes_eq (ns : List Nd) (h : refWrong ns = none) : packBytes ns = refBytes ns := by
  unfold refWrong at h
  cases ns with
  | nil => cases h
  | cons x F =>
    rw [if_neg (by simp)] at h
    obtain ⟨hx, hG, hK⟩ := good_root x F h
    have hKF : Kinds F := fun y hy => hK y (List.mem_cons_of_mem _ hy)
    have hk := hK x (List.mem_cons_self)
    simp only [packBytes, refBytes]
    by_cases h4 : x.kind = 4
    · have e := ents_eq F.length F [] (prefixIn x.path) [] F.length F.length (Nat.le_refl _) (by rw [prefixIn_dataV]; rw [show x.path.data.toList = [] from hx]) (hG h4) hKF (fun y R' e => by cases e) (by simp) (Nat.le_refl _)
      have := node_eq (entsF F.length) (refE F.length) x F [] hk (fun _ => e) (fun hn => absurd h4 hn)
      rw [List.append_nil] at this
      rw [this]
    · have := node_eq (entsF F.length) (refE F.length) x [] F hk (fun hn => absurd hn h4) (fun _ => rfl)
      rw [List.nil_append] at this
      rw [this]
      have e : refN (refE F.length) x [] = refN (refE F.length) x F := by
        unfold refN
        rcases hk with hh | hh | hh | hh
        · simp [hh]
        · simp [hh]
        · simp [hh]
        · exact absurd hh h4
      rw [e]
end Go.Proofs.YticfcjmlphhpgaaDoor
