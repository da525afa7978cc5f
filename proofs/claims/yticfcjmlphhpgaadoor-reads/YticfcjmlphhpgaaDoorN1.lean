/-
  MATHEMATICS of the document's reader: its own way, and that it reads as the list of what must come does.
-/
import Derived.Test.YticfcjmlphhpgaaDoorR1
namespace Go.Proofs.YticfcjmlphhpgaaDoor
open Go.RowKit

/-- The document's reader: where it stands; the first error, and its place; the nodes. -/
structure Ns where
  pos : Nat
  e : Int
  bad : Nat
  l : List Nd
def Ns.fail (st : Ns) (e : Int) (p : Nat) : Ns := if st.e = 0 then ⟨st.pos, e, p, st.l⟩ else st
def Ns.failIf (st : Ns) (c : Bool) (e : Int) (p : Nat) : Ns := if c = true then st.fail e p else st
def Ns.push (st : Ns) (n : Nd) : Ns := ⟨st.pos, st.e, st.bad, st.l ++ [n]⟩
def nextN (s : Bs) (most : Nat) (st : Ns) : Ns × ByteArray :=
  if st.e ≠ 0 then (st, ⟨#[]⟩) else match cutF (s.drop st.pos) most with
    | .wait => (st.fail 2 s.length, ⟨#[]⟩)
    | .bad e => (st.fail e st.pos, ⟨#[]⟩)
    | .ok t _ n => (⟨st.pos + n, st.e, st.bad, st.l⟩, ⟨t.toArray⟩)
def hasB (t : ByteArray) (may : List ByteArray) : Bool := may.any fun w => decide (t = w)
theorem hasB_iff (t : ByteArray) (may : List ByteArray) : hasB t may = true ↔ t ∈ may := by simp [hasB]
def wordN (s : Bs) (may : List ByteArray) (st : Ns) : Ns × ByteArray :=
  if hasB (nextN s 8 st).2 may = true ∧ (nextN s 8 st).1.e = 0 then nextN s 8 st else ((nextN s 8 st).1.fail 5 st.pos, ⟨#[]⟩)
def mustN (s : Bs) (w : ByteArray) (st : Ns) : Ns := (wordN s [w] st).1
def headN (s : Bs) (deep : Nat) (st : Ns) : Ns := mustN s wType (((mustN s wOpen st).failIf (decide (5 < deep)) 8 st.pos).failIf (decide (st.l.length = 30)) 9 st.pos)
def dataN (s : Bs) (path : ByteArray) (k : Int) (st : Ns) : Ns := mustN s wClose ((nextN s 100 st).1.push ⟨path, k, (nextN s 100 st).2⟩)
def fileN (s : Bs) (path : ByteArray) (st : Ns) : Ns :=
  if (wordN s [wExec, wData] st).2 = wExec then dataN s path 2 (mustN s wData (mustN s wNone (wordN s [wExec, wData] st).1)) else dataN s path 1 (wordN s [wExec, wData] st).1
def leadN (s : Bs) (path : ByteArray) (st : Ns) : Ns := mustN s wClose (((nextN s 100 st).1.failIf (!fits 3 (nextN s 100 st).2.data.toList) 6 st.pos).push ⟨path, 3, (nextN s 100 st).2⟩)
def linkN (s : Bs) (path : ByteArray) (st : Ns) : Ns := leadN s path (mustN s wTo st)
def kindN (s : Bs) (D : ByteArray → Nat → Ns → Ns) (path : ByteArray) (deep : Nat) (w : Ns × ByteArray) : Ns :=
  if w.2 = wFile then fileN s path w.1 else if w.2 = wLink then linkN s path w.1 else if w.2 = wDir then D path deep (w.1.push ⟨path, 4, ⟨#[]⟩⟩) else w.1
def nodeB (s : Bs) (D : ByteArray → Nat → Ns → Ns) (path : ByteArray) (deep : Nat) (st : Ns) : Ns := kindN s D path deep (wordN s [wFile, wLink, wDir] (headN s deep st))
def nameN (s : Bs) (last : ByteArray) (st : Ns) : Ns × ByteArray :=
  (mustN s wNode (((nextN s 48 st).1.failIf (!isNameB (nextN s 48 st).2.data.toList) 6 st.pos).failIf (notAbove (nextN s 48 st).2 last) 7 st.pos), (nextN s 48 st).2)
def entryN (s : Bs) (last : ByteArray) (st : Ns) : Ns × ByteArray := nameN s last (mustN s wName (mustN s wOpen st))
def dirN (s : Bs) : Nat → ByteArray → Nat → ByteArray → Ns → Ns
  | 0, _, _, _, st => st
  | f + 1, path, deep, last, st =>
    if (wordN s [wEntry, wClose] st).2 = wEntry then
      dirN s f path deep (entryN s last (wordN s [wEntry, wClose] st).1).2 (mustN s wClose (nodeB s (fun p d x => dirN s f p d ⟨#[]⟩ x) (prefixIn path ++ (entryN s last (wordN s [wEntry, wClose] st).1).2) (deep + 1) (entryN s last (wordN s [wEntry, wClose] st).1).1))
    else (wordN s [wEntry, wClose] st).1
def nodeN (s : Bs) (f : Nat) : ByteArray → Nat → Ns → Ns := nodeB s (fun p d x => dirN s f p d ⟨#[]⟩ x)
theorem dirN_zero (s : Bs) (path : ByteArray) (deep : Nat) (last : ByteArray) (st : Ns) : dirN s 0 path deep last st = st := rfl
theorem dirN_entry (s : Bs) (f : Nat) (path : ByteArray) (deep : Nat) (last : ByteArray) (st : Ns) (h : (wordN s [wEntry, wClose] st).2 = wEntry) :
    dirN s (f + 1) path deep last st = dirN s f path deep (entryN s last (wordN s [wEntry, wClose] st).1).2 (mustN s wClose (nodeN s f (prefixIn path ++ (entryN s last (wordN s [wEntry, wClose] st).1).2) (deep + 1) (entryN s last (wordN s [wEntry, wClose] st).1).1)) := by
  rw [dirN, if_pos h]; rfl
theorem dirN_end (s : Bs) (f : Nat) (path : ByteArray) (deep : Nat) (last : ByteArray) (st : Ns) (h : ¬ (wordN s [wEntry, wClose] st).2 = wEntry) :
    dirN s (f + 1) path deep last st = (wordN s [wEntry, wClose] st).1 := by
  rw [dirN, if_neg h]
def treeN (s : Bs) : Ns := nodeN s (s.length + 1) ⟨#[]⟩ 0 (mustN s wNar ⟨0, 0, 0, []⟩)
def readN (s : Bs) : List Nd × Int × Nat :=
  let st := (treeN s).failIf (decide ((treeN s).pos < s.length)) 10 (treeN s).pos
  if st.e = 0 then (st.l, 0, 0) else ([], st.e, st.bad)

/-! the first error stays -/
def Dead (e : Int) (p : Nat) (st : Ns) : Prop := e ≠ 0 ∧ st.e = e ∧ st.bad = p
theorem Dead.ne {e : Int} {p : Nat} {st : Ns} (h : Dead e p st) : st.e ≠ 0 := by rw [h.2.1]; exact h.1
theorem Dead.of {e : Int} {p : Nat} {st : Ns} (h : Dead e p st) {st' : Ns} (he : st' = st) : Dead e p st' := he ▸ h
theorem fail_dead {st : Ns} (h : st.e ≠ 0) (e : Int) (p : Nat) : st.fail e p = st := by unfold Ns.fail; rw [if_neg h]
theorem failIf_dead {st : Ns} (h : st.e ≠ 0) (c : Bool) (e : Int) (p : Nat) : st.failIf c e p = st := by unfold Ns.failIf; rw [fail_dead h]; split <;> rfl
theorem next_dead {st : Ns} (h : st.e ≠ 0) (s : Bs) (m : Nat) : nextN s m st = (st, ⟨#[]⟩) := by unfold nextN; rw [if_pos h]
theorem word_dead {st : Ns} (h : st.e ≠ 0) (s : Bs) (may : List ByteArray) : wordN s may st = (st, ⟨#[]⟩) := by
  unfold wordN; rw [next_dead h, if_neg (fun x => h x.2), fail_dead h]
theorem must_dead {st : Ns} (h : st.e ≠ 0) (s : Bs) (w : ByteArray) : mustN s w st = st := by unfold mustN; rw [word_dead h]
theorem head_dead {st : Ns} (h : st.e ≠ 0) (s : Bs) (d : Nat) : headN s d st = st := by
  unfold headN; rw [must_dead h s wOpen, failIf_dead h, failIf_dead h, must_dead h]
theorem ne_none_file : ¬ (⟨#[]⟩ : ByteArray) = wFile := by decide
theorem ne_none_link : ¬ (⟨#[]⟩ : ByteArray) = wLink := by decide
theorem ne_none_dir : ¬ (⟨#[]⟩ : ByteArray) = wDir := by decide
theorem ne_none_entry : ¬ (⟨#[]⟩ : ByteArray) = wEntry := by decide
theorem ne_none_exec : ¬ (⟨#[]⟩ : ByteArray) = wExec := by decide
theorem node_dead {st : Ns} (h : st.e ≠ 0) (s : Bs) (D : ByteArray → Nat → Ns → Ns) (path : ByteArray) (deep : Nat) : nodeB s D path deep st = st := by
  unfold nodeB kindN
  rw [head_dead h, word_dead h]
  simp only [if_neg ne_none_file, if_neg ne_none_link, if_neg ne_none_dir]
theorem dir_dead {st : Ns} (h : st.e ≠ 0) (s : Bs) (f : Nat) (path : ByteArray) (deep : Nat) (last : ByteArray) : dirN s f path deep last st = st := by
  cases f with
  | zero => rfl
  | succ f => rw [dirN_end _ _ _ _ _ _ (by rw [word_dead h]; exact ne_none_entry), word_dead h]
theorem data_dead {e : Int} {p : Nat} {st : Ns} (h : Dead e p st) (s : Bs) (path : ByteArray) (k : Int) : Dead e p (dataN s path k st) := by
  unfold dataN; rw [next_dead h.ne]
  have h2 : Dead e p ((st, (⟨#[]⟩ : ByteArray)).1.push ⟨path, k, (st, (⟨#[]⟩ : ByteArray)).2⟩) := h
  rw [must_dead h2.ne]; exact h2
theorem lead_dead {e : Int} {p : Nat} {st : Ns} (h : Dead e p st) (s : Bs) (path : ByteArray) : Dead e p (leadN s path st) := by
  unfold leadN; rw [next_dead h.ne, failIf_dead (st := (st, (⟨#[]⟩ : ByteArray)).1) h.ne]
  have h2 : Dead e p ((st, (⟨#[]⟩ : ByteArray)).1.push ⟨path, 3, (st, (⟨#[]⟩ : ByteArray)).2⟩) := h
  rw [must_dead h2.ne]; exact h2
theorem name_dead {st : Ns} (h : st.e ≠ 0) (s : Bs) (last : ByteArray) : (nameN s last st).1 = st := by
  unfold nameN; rw [next_dead h]
  simp only
  rw [failIf_dead h, failIf_dead h, must_dead h]

/-! the nodes stay -/
theorem fail_l (st : Ns) (e : Int) (p : Nat) : (st.fail e p).l = st.l ∧ (st.fail e p).pos = st.pos := by unfold Ns.fail; split <;> exact ⟨rfl, rfl⟩
theorem next_l (s : Bs) (m : Nat) (st : Ns) : (nextN s m st).1.l = st.l := by
  unfold nextN
  split
  · rfl
  · split
    · exact (fail_l _ _ _).1
    · exact (fail_l _ _ _).1
    · rfl
theorem word_l (s : Bs) (may : List ByteArray) (st : Ns) : (wordN s may st).1.l = st.l := by
  unfold wordN
  split
  · exact next_l _ _ _
  · rw [(fail_l _ _ _).1]; exact next_l _ _ _
theorem must_l (s : Bs) (w : ByteArray) (st : Ns) : (mustN s w st).l = st.l := word_l _ _ _
theorem failIf_l (st : Ns) (c : Bool) (e : Int) (p : Nat) : (st.failIf c e p).l = st.l ∧ (st.failIf c e p).pos = st.pos := by unfold Ns.failIf; split; exact fail_l _ _ _; exact ⟨rfl, rfl⟩

/-! against the list of what must come -/
structure At (s : Bs) (st : Ns) (x : Pt) : Prop where
  e : st.e = 0
  left : x.left = s.drop st.pos
  pos : x.pos = st.pos
  le : st.pos ≤ s.length
theorem At.len {s : Bs} {st : Ns} {x : Pt} (h : At s st x) : x.pos + x.left.length = s.length := by
  rw [h.left, h.pos, List.length_drop]; have := h.le; omega
def Sim (s : Bs) (Q : Pt → Ns → Prop) (o : Ex Pt) (st : Ns) : Prop := match o with
  | .no e p => Dead e p st
  | .yes y => At s st y ∧ Q y st
theorem next_wait {s : Bs} {st : Ns} {x : Pt} (h : At s st x) {m : Nat} (hc : cutF x.left m = .wait) : Dead 2 (x.pos + x.left.length) (nextN s m st).1 ∧ (nextN s m st).2 = ⟨#[]⟩ := by
  rw [h.len]
  unfold nextN
  rw [if_neg (by rw [h.e]; simp), ← h.left, hc]
  refine ⟨?_, rfl⟩
  simp only [Ns.fail, if_pos h.e]
  exact ⟨by decide, rfl, rfl⟩
theorem cut_bad {l : Bs} {m : Nat} {e : Int} (h : cutF l m = .bad e) : e ≠ 0 := by
  unfold cutF at h
  split at h
  · cases h
  · split at h
    · injection h with h; subst h; decide
    · split at h
      · cases h
      · split at h
        · cases h
        · injection h with h; subst h; decide
theorem next_bad {s : Bs} {st : Ns} {x : Pt} (h : At s st x) {m : Nat} {e : Int} (hc : cutF x.left m = .bad e) : Dead e x.pos (nextN s m st).1 ∧ (nextN s m st).2 = ⟨#[]⟩ := by
  have hne := cut_bad hc
  unfold nextN
  rw [if_neg (by rw [h.e]; simp), ← h.left, hc]
  refine ⟨?_, rfl⟩
  simp only [Ns.fail, if_pos h.e]
  exact ⟨hne, rfl, h.pos.symm⟩
theorem next_ok {s : Bs} {st : Ns} {x : Pt} (h : At s st x) {m : Nat} {t rest : Bs} {n : Nat} (hc : cutF x.left m = .ok t rest n) (g : Gr) : nextN s m st = (⟨st.pos + n, st.e, st.bad, st.l⟩, ⟨t.toArray⟩) ∧ At s ⟨st.pos + n, st.e, st.bad, st.l⟩ ⟨rest, x.pos + n, g⟩ := by
  have hk := cutF_ok hc
  have hl := h.len
  refine ⟨?_, h.e, ?_, by rw [h.pos], ?_⟩
  · unfold nextN
    rw [if_neg (by rw [h.e]; simp), ← h.left, hc]
  · show rest = s.drop (st.pos + n)
    rw [hk.2.2.2.2.2.1, h.left, List.drop_drop]
  · show st.pos + n ≤ s.length
    have := hk.2.2.2.1
    have := h.pos
    omega
theorem word_wait {s : Bs} {st : Ns} {x : Pt} (h : At s st x) {may : List ByteArray} (hc : cutF x.left 8 = .wait) : Dead 2 (x.pos + x.left.length) (wordN s may st).1 ∧ (wordN s may st).2 = ⟨#[]⟩ := by
  have hn := next_wait h hc
  unfold wordN
  rw [if_neg (fun e => hn.1.ne e.2)]
  exact ⟨hn.1.of (fail_dead hn.1.ne _ _), rfl⟩
theorem word_bad {s : Bs} {st : Ns} {x : Pt} (h : At s st x) {may : List ByteArray} {e : Int} (hc : cutF x.left 8 = .bad e) : Dead e x.pos (wordN s may st).1 ∧ (wordN s may st).2 = ⟨#[]⟩ := by
  have hn := next_bad h hc
  unfold wordN
  rw [if_neg (fun e => hn.1.ne e.2)]
  exact ⟨hn.1.of (fail_dead hn.1.ne _ _), rfl⟩
theorem word_ok {s : Bs} {st : Ns} {x : Pt} (h : At s st x) {may : List ByteArray} {t rest : Bs} {n : Nat} (hc : cutF x.left 8 = .ok t rest n) (g : Gr) (hm : (⟨t.toArray⟩ : ByteArray) ∈ may) : wordN s may st = (⟨st.pos + n, st.e, st.bad, st.l⟩, ⟨t.toArray⟩) ∧ At s ⟨st.pos + n, st.e, st.bad, st.l⟩ ⟨rest, x.pos + n, g⟩ := by
  obtain ⟨h1, h2⟩ := next_ok h hc g
  unfold wordN
  rw [h1, if_pos ⟨(hasB_iff _ _).2 hm, h.e⟩]
  exact ⟨rfl, h2⟩
theorem word_no {s : Bs} {st : Ns} {x : Pt} (h : At s st x) {may : List ByteArray} {t rest : Bs} {n : Nat} (hc : cutF x.left 8 = .ok t rest n) (hm : ¬ (⟨t.toArray⟩ : ByteArray) ∈ may) : Dead 5 x.pos (wordN s may st).1 ∧ (wordN s may st).2 = ⟨#[]⟩ := by
  obtain ⟨h1, h2⟩ := next_ok h hc x.gr
  unfold wordN
  rw [h1, if_neg (fun e => hm ((hasB_iff _ _).1 e.1))]
  refine ⟨?_, rfl⟩
  simp only [Ns.fail, if_pos h.e]
  exact ⟨by decide, rfl, h.pos.symm⟩
/-- A word, and on. -/
theorem sim_word {s : Bs} {Q : Pt → Ns → Prop} {w : ByteArray} {K : List It} {x : Pt} {st : Ns} (G : Ns → Ns) (h : At s st x)
    (hd : ∀ e p st', Dead e p st' → Dead e p (G st'))
    (hk : ∀ y st', At s st' y → y.gr = x.gr → st'.l = st.l → y.left.length + 8 ≤ x.left.length → Sim s Q (run K y) (G st')) :
    Sim s Q (run (.word w :: K) x) (G (mustN s w st)) := by
  rw [run_cons]
  unfold one
  show Sim s Q (Ex.then (match cutF x.left 8 with | .wait => _ | .bad e => _ | .ok t rest n => _) _) _
  cases hc : cutF x.left 8 with
  | wait => exact hd _ _ _ (word_wait h hc).1
  | bad e => exact hd _ _ _ (word_bad h hc).1
  | ok t rest n =>
    simp only [take_word]
    by_cases hw : (⟨t.toArray⟩ : ByteArray) = w
    · rw [if_pos hw]
      obtain ⟨h1, h2⟩ := word_ok (may := [w]) h hc x.gr (by simp [hw])
      have e : mustN s w st = ⟨st.pos + n, st.e, st.bad, st.l⟩ := by unfold mustN; rw [h1]
      rw [e]
      simp only [Ex.then, List.nil_append]
      exact hk _ _ h2 rfl rfl (cutF_len hc).1
    · rw [if_neg hw]
      exact hd _ _ _ (word_no (may := [w]) h hc (by simp [hw])).1
end Go.Proofs.YticfcjmlphhpgaaDoor
namespace Go.Proofs.YticfcjmlphhpgaaDoor
open Go.RowKit

theorem one_eq (i : It) (x : Pt) : one i x = match cutF x.left i.most with
  | .wait => .no 2 (x.pos + x.left.length)
  | .bad e => .no e x.pos
  | .ok s rest n => match takeF x.gr i ⟨s.toArray⟩ with
    | .err e => .no e x.pos
    | .more g push => .yes (⟨rest, x.pos + n, g⟩, push) := rfl
theorem exec_len : ∀ (f : Nat) (K : List It) (x y : Pt), exec f K x = .yes y → y.left.length ≤ x.left.length
  | f, [], x, y, h => by
    have h : (Ex.yes x : Ex Pt) = .yes y := by cases f <;> exact h
    injection h with h; subst h; exact Nat.le_refl _
  | 0, _ :: _, x, y, h => by cases h
  | f + 1, i :: K, x, y, h => by
    simp only [exec] at h
    cases ho : one i x with
    | no e p => rw [ho] at h; cases h
    | yes z =>
      rw [ho] at h
      obtain ⟨z, l⟩ := z
      have h1 := one_len ho
      have h2 := exec_len f (l ++ K) z y h
      omega
theorem run_len (K : List It) (x y : Pt) (h : run K x = .yes y) : y.left.length ≤ x.left.length := exec_len _ K x y h
/-- A file's bytes. -/
theorem sim_data {s : Bs} {x : Pt} {st : Ns} (ns : List Nd) (D : Ds) (path p : ByteArray) (k : Int) (hk : k = 1 ∨ k = 2) (h : At s st x) (hg : x.gr = ⟨ns ++ [⟨path, k, ⟨#[]⟩⟩], D, p⟩) (hl : st.l = ns) :
    Sim s (fun y st' => y.gr.dirs = D ∧ st'.l = y.gr.nodes ∧ st'.l.length = ns.length + 1) (run [.data, .word wClose] x) (dataN s path k st) := by
  rw [run_cons, one_eq, hg]
  show Sim s _ (Ex.then (match cutF x.left 100 with | .wait => _ | .bad e => _ | .ok t rest n => _) _) _
  cases hc : cutF x.left 100 with
  | wait =>
    obtain ⟨h1, h2⟩ := next_wait h hc
    unfold dataN
    have h3 : Dead 2 (x.pos + x.left.length) ((nextN s 100 st).1.push ⟨path, k, (nextN s 100 st).2⟩) := h1
    exact h3.of (must_dead h3.ne _ _)
  | bad e =>
    obtain ⟨h1, h2⟩ := next_bad h hc
    unfold dataN
    have h3 : Dead e x.pos ((nextN s 100 st).1.push ⟨path, k, (nextN s 100 st).2⟩) := h1
    exact h3.of (must_dead h3.ne _ _)
  | ok t rest n =>
    have hlen := cutF_len hc
    have hf : fits k (⟨t.toArray⟩ : ByteArray).data.toList = true := by
      unfold fits
      rw [if_neg (by omega), if_pos hk]
      simp; omega
    simp only [take_data, lastN_snoc, setN_snoc, hf, if_true, Ex.then, List.nil_append]
    obtain ⟨h1, h2⟩ := next_ok h hc ⟨ns ++ [⟨path, k, ⟨t.toArray⟩⟩], D, p⟩
    unfold dataN
    rw [h1]
    refine sim_word (fun z => z) (x := ⟨rest, x.pos + n, ⟨ns ++ [⟨path, k, ⟨t.toArray⟩⟩], D, p⟩⟩) (st := Ns.push ⟨st.pos + n, st.e, st.bad, st.l⟩ ⟨path, k, ⟨t.toArray⟩⟩) ⟨h2.e, h2.left, h2.pos, h2.le⟩ (fun _ _ _ h => h) ?_
    intro y st' hy hyg hyl _
    rw [run_nil]
    refine ⟨hy, ?_⟩
    show y.gr.dirs = D ∧ st'.l = y.gr.nodes ∧ st'.l.length = ns.length + 1
    rw [hyg, hyl, Ns.push]
    simp [hl]
theorem sim_lead {s : Bs} {x : Pt} {st : Ns} (ns : List Nd) (D : Ds) (path p : ByteArray) (h : At s st x) (hg : x.gr = ⟨ns ++ [⟨path, 3, ⟨#[]⟩⟩], D, p⟩) (hl : st.l = ns) :
    Sim s (fun y st' => y.gr.dirs = D ∧ st'.l = y.gr.nodes ∧ st'.l.length = ns.length + 1) (run [.data, .word wClose] x) (leadN s path st) := by
  rw [run_cons, one_eq, hg]
  show Sim s _ (Ex.then (match cutF x.left 100 with | .wait => _ | .bad e => _ | .ok t rest n => _) _) _
  cases hc : cutF x.left 100 with
  | wait =>
    obtain ⟨h1, h2⟩ := next_wait h hc
    unfold leadN
    rw [failIf_dead h1.ne]
    have h3 : Dead 2 (x.pos + x.left.length) ((nextN s 100 st).1.push ⟨path, 3, (nextN s 100 st).2⟩) := h1
    exact h3.of (must_dead h3.ne _ _)
  | bad e =>
    obtain ⟨h1, h2⟩ := next_bad h hc
    unfold leadN
    rw [failIf_dead h1.ne]
    have h3 : Dead e x.pos ((nextN s 100 st).1.push ⟨path, 3, (nextN s 100 st).2⟩) := h1
    exact h3.of (must_dead h3.ne _ _)
  | ok t rest n =>
    obtain ⟨h1, h2⟩ := next_ok h hc ⟨ns ++ [⟨path, 3, ⟨t.toArray⟩⟩], D, p⟩
    unfold leadN
    rw [h1]
    simp only [take_data, lastN_snoc, setN_snoc]
    cases hf : fits 3 (⟨t.toArray⟩ : ByteArray).data.toList with
    | true =>
      simp only [if_true, Ex.then, List.nil_append, Bool.not_true, Ns.failIf]
      refine sim_word (fun z => z) (x := ⟨rest, x.pos + n, ⟨ns ++ [⟨path, 3, ⟨t.toArray⟩⟩], D, p⟩⟩) (st := Ns.push ⟨st.pos + n, st.e, st.bad, st.l⟩ ⟨path, 3, ⟨t.toArray⟩⟩) ⟨h2.e, h2.left, h2.pos, h2.le⟩ (fun _ _ _ h => h) ?_
      intro y st' hy hyg hyl _
      rw [run_nil]
      refine ⟨hy, ?_⟩
      show y.gr.dirs = D ∧ st'.l = y.gr.nodes ∧ st'.l.length = ns.length + 1
      rw [hyg, hyl, Ns.push]
      simp [hl]
    | false =>
      simp only [Ex.then, Bool.not_false, Ns.failIf, if_true, Ns.fail, if_pos h.e, Ns.push]
      have h3 : Dead 6 x.pos ⟨st.pos + n, 6, st.pos, st.l ++ [⟨path, 3, ⟨t.toArray⟩⟩]⟩ := ⟨by decide, rfl, h.pos.symm⟩
      exact h3.of (must_dead h3.ne _ _)
theorem sim_file {s : Bs} {x : Pt} {st : Ns} (ns : List Nd) (D : Ds) (path p : ByteArray) (h : At s st x) (hg : x.gr = ⟨ns ++ [⟨path, 1, ⟨#[]⟩⟩], D, p⟩) (hl : st.l = ns) :
    Sim s (fun y st' => y.gr.dirs = D ∧ st'.l = y.gr.nodes ∧ st'.l.length = ns.length + 1) (run [.inFile] x) (fileN s path st) := by
  rw [run_cons, one_eq, hg]
  show Sim s _ (Ex.then (match cutF x.left 8 with | .wait => _ | .bad e => _ | .ok t rest n => _) _) _
  unfold fileN
  cases hc : cutF x.left 8 with
  | wait =>
    obtain ⟨h1, h2⟩ := word_wait (may := [wExec, wData]) h hc
    rw [h2, if_neg ne_none_exec]
    exact data_dead h1 _ _ _
  | bad e =>
    obtain ⟨h1, h2⟩ := word_bad (may := [wExec, wData]) h hc
    rw [h2, if_neg ne_none_exec]
    exact data_dead h1 _ _ _
  | ok t rest n =>
    simp only [take_inFile, lastN_snoc, setN_snoc]
    by_cases h1 : (⟨t.toArray⟩ : ByteArray) = wExec
    · obtain ⟨hw, ha⟩ := word_ok (may := [wExec, wData]) h hc ⟨ns ++ [⟨path, 2, ⟨#[]⟩⟩], D, p⟩ (by simp [h1])
      rw [hw]
      simp only [if_pos h1, Ex.then, List.append_nil]
      refine sim_word (fun z => dataN s path 2 (mustN s wData z)) ha (fun e q z hz => data_dead (hz.of (must_dead hz.ne _ _)) _ _ _) ?_
      intro y st1 hy hyg hyl _
      refine sim_word (fun z => dataN s path 2 z) hy (fun e q z hz => data_dead hz _ _ _) ?_
      intro y2 st2 hy2 hyg2 hyl2 _
      exact sim_data ns D path p 2 (.inr rfl) hy2 (by rw [hyg2, hyg]) (by rw [hyl2, hyl]; exact hl)
    · by_cases h2 : (⟨t.toArray⟩ : ByteArray) = wData
      · obtain ⟨hw, ha⟩ := word_ok (may := [wExec, wData]) h hc ⟨ns ++ [⟨path, 1, ⟨#[]⟩⟩], D, p⟩ (by simp [h2])
        rw [hw]
        simp only [if_neg h1, if_pos h2, Ex.then, List.append_nil]
        exact sim_data ns D path p 1 (.inl rfl) ha rfl hl
      · obtain ⟨hd, he⟩ := word_no (may := [wExec, wData]) h hc (by simp [h1, h2])
        rw [he]
        simp only [if_neg h1, if_neg h2, if_neg ne_none_exec, Ex.then]
        exact data_dead hd _ _ _

def QN (D : Ds) (y : Pt) (st : Ns) : Prop := y.gr.dirs = D ∧ st.l = y.gr.nodes ∧ st.l.length ≤ 30
theorem Sim.mono {s : Bs} {Q Q' : Pt → Ns → Prop} {o : Ex Pt} {st : Ns} (h : Sim s Q o st) (hq : ∀ y st, Q y st → Q' y st) : Sim s Q' o st := by
  cases o with
  | no e p => exact h
  | yes y => exact ⟨h.1, hq _ _ h.2⟩
/-- Directories, with so much left. -/
def DirSim (s : Bs) (f : Nat) : Prop := ∀ (ns : List Nd) (D : Ds) (path last p : ByteArray) (x : Pt) (st : Ns), At s st x → x.gr = ⟨ns, D ++ [(prefixIn path, last)], p⟩ → st.l = ns → ns.length ≤ 30 → x.left.length < f →
  Sim s (QN D) (run [.inDir] x) (dirN s f path D.length last st)
theorem sim_kind {s : Bs} {f : Nat} (hD : DirSim s f) (ns : List Nd) (D : Ds) (path p : ByteArray) {x : Pt} {st : Ns} (h : At s st x) (hg : x.gr = ⟨ns ++ [⟨path, 0, ⟨#[]⟩⟩], D, p⟩) (hl : st.l = ns) (hn : ns.length < 30) (hx : x.left.length < f) :
    Sim s (QN D) (run [.kind] x) (kindN s (fun p d x => dirN s f p d ⟨#[]⟩ x) path D.length (wordN s [wFile, wLink, wDir] st)) := by
  rw [run_cons, one_eq, hg]
  show Sim s _ (Ex.then (match cutF x.left 8 with | .wait => _ | .bad e => _ | .ok t rest n => _) _) _
  unfold kindN
  cases hc : cutF x.left 8 with
  | wait =>
    obtain ⟨h1, h2⟩ := word_wait (may := [wFile, wLink, wDir]) h hc
    rw [h2, if_neg ne_none_file, if_neg ne_none_link, if_neg ne_none_dir]
    exact h1
  | bad e =>
    obtain ⟨h1, h2⟩ := word_bad (may := [wFile, wLink, wDir]) h hc
    rw [h2, if_neg ne_none_file, if_neg ne_none_link, if_neg ne_none_dir]
    exact h1
  | ok t rest n =>
    have hlen := cutF_len hc
    simp only [take_kind, lastN_snoc, setN_snoc]
    by_cases h1 : (⟨t.toArray⟩ : ByteArray) = wFile
    · obtain ⟨hw, ha⟩ := word_ok (may := [wFile, wLink, wDir]) h hc ⟨ns ++ [⟨path, 1, ⟨#[]⟩⟩], D, p⟩ (by simp [h1])
      rw [hw]
      simp only [if_pos h1, Ex.then, List.append_nil]
      exact (sim_file ns D path p ha rfl hl).mono fun y z hq => ⟨hq.1, hq.2.1, by rw [hq.2.2]; omega⟩
    · by_cases h2 : (⟨t.toArray⟩ : ByteArray) = wLink
      · obtain ⟨hw, ha⟩ := word_ok (may := [wFile, wLink, wDir]) h hc ⟨ns ++ [⟨path, 3, ⟨#[]⟩⟩], D, p⟩ (by simp [h2])
        rw [hw]
        simp only [if_neg h1, if_pos h2, Ex.then, List.append_nil]
        unfold linkN
        refine sim_word (fun z => leadN s path z) ha (fun e q z hz => lead_dead hz _ _) ?_
        intro y st1 hy hyg hyl _
        exact (sim_lead ns D path p hy hyg (by rw [hyl]; exact hl)).mono fun y z hq => ⟨hq.1, hq.2.1, by rw [hq.2.2]; omega⟩
      · by_cases h3 : (⟨t.toArray⟩ : ByteArray) = wDir
        · obtain ⟨hw, ha⟩ := word_ok (may := [wFile, wLink, wDir]) h hc ⟨ns ++ [⟨path, 4, ⟨#[]⟩⟩], D ++ [(prefixIn path, ⟨#[]⟩)], p⟩ (by simp [h3])
          rw [hw]
          simp only [if_neg h1, if_neg h2, if_pos h3, Ex.then, List.append_nil]
          exact hD (ns ++ [⟨path, 4, ⟨#[]⟩⟩]) D path ⟨#[]⟩ p _ _ ⟨ha.e, ha.left, ha.pos, ha.le⟩ rfl (by simp [Ns.push, hl]) (by simp; omega) (by simp only; omega)
        · obtain ⟨hd, he⟩ := word_no (may := [wFile, wLink, wDir]) h hc (by simp [h1, h2, h3])
          rw [he]
          simp only [if_neg h1, if_neg h2, if_neg h3, if_neg ne_none_file, if_neg ne_none_link, if_neg ne_none_dir, Ex.then]
          exact hd
theorem sim_node {s : Bs} {f : Nat} (hD : DirSim s f) (ns : List Nd) (D : Ds) (path : ByteArray) {x : Pt} {st : Ns} (h : At s st x) (hg : x.gr = ⟨ns, D, path⟩) (hl : st.l = ns) (hn : ns.length ≤ 30) (hx : x.left.length < f) :
    Sim s (QN D) (run [.bracket] x) (nodeN s f path D.length st) := by
  rw [run_cons, one_eq, hg]
  show Sim s _ (Ex.then (match cutF x.left 8 with | .wait => _ | .bad e => _ | .ok t rest n => _) _) _
  unfold nodeN nodeB headN
  have hdead : ∀ e q z, Dead e q z → Dead e q (kindN s (fun p d x => dirN s f p d ⟨#[]⟩ x) path D.length (wordN s [wFile, wLink, wDir] (mustN s wType z))) := by
    intro e q z hz
    rw [must_dead hz.ne, word_dead hz.ne]
    unfold kindN
    simp only [if_neg ne_none_file, if_neg ne_none_link, if_neg ne_none_dir]
    exact hz
  have hwait : ∀ e q, Dead e q (wordN s [wOpen] st).1 → Dead e q (kindN s (fun p d x => dirN s f p d ⟨#[]⟩ x) path D.length (wordN s [wFile, wLink, wDir] (mustN s wType (((mustN s wOpen st).failIf (decide (5 < D.length)) 8 st.pos).failIf (decide (st.l.length = 30)) 9 st.pos)))) := by
    intro e q hz
    have hz : Dead e q (mustN s wOpen st) := hz
    rw [failIf_dead hz.ne, failIf_dead hz.ne]
    exact hdead _ _ _ hz
  cases hc : cutF x.left 8 with
  | wait => exact hwait _ _ (word_wait h hc).1
  | bad e => exact hwait _ _ (word_bad h hc).1
  | ok t rest n =>
    have hlen := cutF_len hc
    simp only [take_bracket]
    by_cases h1 : (⟨t.toArray⟩ : ByteArray) = wOpen
    · obtain ⟨hw, ha⟩ := word_ok (may := [wOpen]) h hc ⟨ns ++ [⟨path, 0, ⟨#[]⟩⟩], D, path⟩ (by simp [h1])
      have hm : mustN s wOpen st = ⟨st.pos + n, st.e, st.bad, st.l⟩ := by unfold mustN; rw [hw]
      rw [hm, if_pos h1]
      by_cases h5 : 5 < D.length
      · have hd : Dead 8 x.pos (Ns.failIf ⟨st.pos + n, st.e, st.bad, st.l⟩ (decide (5 < D.length)) 8 st.pos) := by
          simp only [Ns.failIf, decide_eq_true h5, if_true, Ns.fail, if_pos h.e]
          exact ⟨by decide, rfl, h.pos.symm⟩
        rw [failIf_dead hd.ne, if_pos h5]
        exact hdead _ _ _ hd
      · rw [if_neg h5]
        have e5 : Ns.failIf ⟨st.pos + n, st.e, st.bad, st.l⟩ (decide (5 < D.length)) 8 st.pos = ⟨st.pos + n, st.e, st.bad, st.l⟩ := by
          simp only [Ns.failIf, decide_eq_false h5]; rfl
        rw [e5]
        by_cases h30 : 30 ≤ ns.length
        · have hd : Dead 9 x.pos (Ns.failIf ⟨st.pos + n, st.e, st.bad, st.l⟩ (decide (st.l.length = 30)) 9 st.pos) := by
            have : st.l.length = 30 := by rw [hl]; omega
            simp only [Ns.failIf, decide_eq_true this, if_true, Ns.fail, if_pos h.e]
            exact ⟨by decide, rfl, h.pos.symm⟩
          rw [if_pos h30]
          exact hdead _ _ _ hd
        · rw [if_neg h30]
          have e3 : Ns.failIf ⟨st.pos + n, st.e, st.bad, st.l⟩ (decide (st.l.length = 30)) 9 st.pos = ⟨st.pos + n, st.e, st.bad, st.l⟩ := by
            have : ¬ st.l.length = 30 := by rw [hl]; omega
            simp only [Ns.failIf, decide_eq_false this]; rfl
          rw [e3]
          simp only [Ex.then, List.append_nil]
          refine sim_word (fun z => kindN s (fun p d x => dirN s f p d ⟨#[]⟩ x) path D.length (wordN s [wFile, wLink, wDir] z)) ha (fun e q z hz => ?_) ?_
          · rw [word_dead hz.ne]
            unfold kindN
            simp only [if_neg ne_none_file, if_neg ne_none_link, if_neg ne_none_dir]
            exact hz
          · intro y st1 hy hyg hyl hyx
            exact sim_kind hD ns D path path hy hyg (by rw [hyl]; exact hl) (by omega) (by simp only at hyx; omega)
    · rw [if_neg h1]
      exact hwait _ _ (word_no h hc (by simp [h1])).1
theorem sim_dir (s : Bs) : ∀ f, DirSim s f
  | 0 => fun _ _ _ _ _ _ _ _ _ _ _ hx => absurd hx (Nat.not_lt_zero _)
  | f + 1 => by
    intro ns D path last p x st h hg hl hn hx
    have IH := sim_dir s f
    rw [run_cons, one_eq, hg]
    show Sim s _ (Ex.then (match cutF x.left 8 with | .wait => _ | .bad e => _ | .ok t rest n => _) _) _
    have hend : ∀ e q, Dead e q (wordN s [wEntry, wClose] st).1 → (wordN s [wEntry, wClose] st).2 = ⟨#[]⟩ → Dead e q (dirN s (f + 1) path D.length last st) := by
      intro e q hz h2
      rw [dirN_end _ _ _ _ _ _ (by rw [h2]; exact ne_none_entry)]
      exact hz
    cases hc : cutF x.left 8 with
    | wait => exact hend _ _ (word_wait h hc).1 (word_wait h hc).2
    | bad e => exact hend _ _ (word_bad h hc).1 (word_bad h hc).2
    | ok t rest n =>
      have hlen := cutF_len hc
      simp only [take_inDir]
      by_cases h1 : (⟨t.toArray⟩ : ByteArray) = wEntry
      · obtain ⟨hw, ha⟩ := word_ok (may := [wEntry, wClose]) h hc ⟨ns, D ++ [(prefixIn path, last)], p⟩ (by simp [h1])
        rw [if_pos h1, dirN_entry _ _ _ _ _ _ (by rw [hw]; exact h1), hw]
        simp only [Ex.then, List.append_nil]
        unfold entryN
        have hrest : ∀ (G : Ns → Ns × ByteArray) (z : Ns) (e : Int) (q : Nat), (∀ z, z.e ≠ 0 → (G z).1 = z) → Dead e q z → Dead e q (dirN s f path D.length (G z).2 (mustN s wClose (nodeN s f (prefixIn path ++ (G z).2) (D.length + 1) (G z).1))) := by
          intro G z e q hG hz
          rw [hG z hz.ne]
          unfold nodeN
          rw [node_dead hz.ne, must_dead hz.ne, dir_dead hz.ne]
          exact hz
        refine sim_word (fun z => dirN s f path D.length (nameN s last (mustN s wName z)).2 (mustN s wClose (nodeN s f (prefixIn path ++ (nameN s last (mustN s wName z)).2) (D.length + 1) (nameN s last (mustN s wName z)).1))) ha (fun e q z hz => hrest (fun z => nameN s last (mustN s wName z)) z e q (fun z hz => by rw [must_dead hz]; exact name_dead hz _ _) hz) ?_
        intro y1 st1 hy1 hg1 hl1 hx1
        refine sim_word (fun z => dirN s f path D.length (nameN s last z).2 (mustN s wClose (nodeN s f (prefixIn path ++ (nameN s last z).2) (D.length + 1) (nameN s last z).1))) hy1 (fun e q z hz => hrest (fun z => nameN s last z) z e q (fun z hz => name_dead hz _ _) hz) ?_
        intro y2 st2 hy2 hg2 hl2 hx2
        have hg2 : y2.gr = ⟨ns, D ++ [(prefixIn path, last)], p⟩ := by rw [hg2, hg1]
        have hl2 : st2.l = ns := by rw [hl2, hl1]; exact hl
        simp only at hx1
        rw [run_cons, one_eq, hg2]
        show Sim s _ (Ex.then (match cutF y2.left 48 with | .wait => _ | .bad e => _ | .ok t rest n => _) _) _
        have hafter : ∀ e q c2 t2, Dead e q c2 → Dead e q (dirN s f path D.length t2 (mustN s wClose (nodeN s f (prefixIn path ++ t2) (D.length + 1) (mustN s wNode c2)))) := by
          intro e q c2 t2 hz
          unfold nodeN
          rw [must_dead hz.ne, node_dead hz.ne, must_dead hz.ne, dir_dead hz.ne]
          exact hz
        cases hc2 : cutF y2.left 48 with
        | wait =>
          have hz := (next_wait hy2 hc2).1
          unfold nameN
          simp only [failIf_dead hz.ne]
          exact hafter _ _ _ _ hz
        | bad e =>
          have hz := (next_bad hy2 hc2).1
          unfold nameN
          simp only [failIf_dead hz.ne]
          exact hafter _ _ _ _ hz
        | ok t2 rest2 n2 =>
          have hlen2 := cutF_len hc2
          obtain ⟨hn1, hn2⟩ := next_ok hy2 hc2 ⟨ns, D ++ [(prefixIn path, ⟨t2.toArray⟩)], prefixIn path ++ ⟨t2.toArray⟩⟩
          unfold nameN
          rw [hn1]
          simp only [take_name, lastD_snoc, setD_snoc]
          cases hN : isNameB (⟨t2.toArray⟩ : ByteArray).data.toList with
          | false =>
            simp only [if_true, Ex.then, Bool.not_false]
            have hz : Dead 6 y2.pos (Ns.failIf ⟨st2.pos + n2, st2.e, st2.bad, st2.l⟩ true 6 st2.pos) := by
              simp only [Ns.failIf, if_true, Ns.fail, if_pos hy2.e]
              exact ⟨by decide, rfl, hy2.pos.symm⟩
            rw [failIf_dead hz.ne]
            exact hafter _ _ _ _ hz
          | true =>
            have e6 : Ns.failIf ⟨st2.pos + n2, st2.e, st2.bad, st2.l⟩ (!true) 6 st2.pos = ⟨st2.pos + n2, st2.e, st2.bad, st2.l⟩ := rfl
            rw [e6, if_neg (by simp)]
            cases hA : notAbove ⟨t2.toArray⟩ last with
            | true =>
              simp only [if_true, Ex.then]
              have hz : Dead 7 y2.pos (Ns.failIf ⟨st2.pos + n2, st2.e, st2.bad, st2.l⟩ true 7 st2.pos) := by
                simp only [Ns.failIf, if_true, Ns.fail, if_pos hy2.e]
                exact ⟨by decide, rfl, hy2.pos.symm⟩
              exact hafter _ _ _ _ hz
            | false =>
              have e7 : Ns.failIf ⟨st2.pos + n2, st2.e, st2.bad, st2.l⟩ false 7 st2.pos = ⟨st2.pos + n2, st2.e, st2.bad, st2.l⟩ := rfl
              rw [e7, if_neg (by simp)]
              simp only [Ex.then, List.nil_append]
              refine sim_word (fun z => dirN s f path D.length ⟨t2.toArray⟩ (mustN s wClose (nodeN s f (prefixIn path ++ ⟨t2.toArray⟩) (D.length + 1) z))) hn2 (fun e q z hz => ?_) ?_
              · unfold nodeN
                rw [node_dead hz.ne, must_dead hz.ne, dir_dead hz.ne]
                exact hz
              · intro y3 st3 hy3 hg3 hl3 hx3
                simp only at hx3 hl3
                have hnode := sim_node IH ns (D ++ [(prefixIn path, ⟨t2.toArray⟩)]) (prefixIn path ++ ⟨t2.toArray⟩) hy3 hg3 (by rw [hl3]; exact hl2) hn (by omega)
                rw [List.length_append, List.length_singleton] at hnode
                rw [run_then]
                have hle : ∀ y4, run [.bracket] y3 = .yes y4 → y4.left.length ≤ y3.left.length := fun y4 h4 => run_len _ _ _ h4
                cases ho : run [.bracket] y3 with
                | no e q =>
                  rw [ho] at hnode
                  have hz : Dead e q (nodeN s f (prefixIn path ++ ⟨t2.toArray⟩) (D.length + 1) st3) := hnode
                  simp only [Ex.then]
                  rw [must_dead hz.ne, dir_dead hz.ne]
                  exact hz
                | yes y4 =>
                  rw [ho] at hnode
                  obtain ⟨ha4, hd4, hl4, hm4⟩ := hnode
                  have hx4 := hle y4 ho
                  simp only [Ex.then]
                  generalize nodeN s f (prefixIn path ++ ⟨t2.toArray⟩) (D.length + 1) st3 = st4 at *
                  refine sim_word (fun z => dirN s f path D.length ⟨t2.toArray⟩ z) ha4 (fun e q z hz => hz.of (dir_dead hz.ne _ _ _ _ _)) ?_
                  intro y5 st5 hy5 hg5 hl5 hx5
                  refine IH y4.gr.nodes D path ⟨t2.toArray⟩ y4.gr.path y5 st5 hy5 ?_ (by rw [hl5]; exact hl4) (by rw [← hl4]; exact hm4) (by omega)
                  rw [hg5, ← hd4]
      · by_cases h2 : (⟨t.toArray⟩ : ByteArray) = wClose
        · obtain ⟨hw, ha⟩ := word_ok (may := [wEntry, wClose]) h hc ⟨ns, D, p⟩ (by simp [h2])
          rw [if_neg h1, if_pos h2, dirN_end _ _ _ _ _ _ (by rw [hw]; exact h1), hw]
          simp only [Ex.then, List.append_nil]
          rw [run_nil]
          have hD : (D ++ [(prefixIn path, last)]).take ((D ++ [(prefixIn path, last)]).length - 1) = D := by simp
          rw [hD]
          exact ⟨ha, rfl, hl, by rw [hl]; exact hn⟩
        · rw [if_neg h1, if_neg h2]
          obtain ⟨hd, he⟩ := word_no (may := [wEntry, wClose]) h hc (by simp [h1, h2])
          exact hend _ _ hd he
theorem readN_eq (s : Bs) : readN s = readF s := by
  rw [readF_run]
  have h0 : At s ⟨0, 0, 0, []⟩ ⟨s, 0, ⟨[], [], ⟨#[]⟩⟩⟩ := ⟨rfl, rfl, rfl, Nat.zero_le _⟩
  have hS : Sim s (QN []) (run [.word wNar, .bracket] ⟨s, 0, ⟨[], [], ⟨#[]⟩⟩⟩) (treeN s) := by
    unfold treeN
    refine sim_word (fun z => nodeN s (s.length + 1) ⟨#[]⟩ 0 z) h0 (fun e q z hz => hz.of (node_dead hz.ne _ _ _ _)) ?_
    intro y st hy hg hl hx
    exact sim_node (sim_dir s _) [] [] ⟨#[]⟩ hy hg hl (by simp) (by simp only at hx; omega)
  unfold readN
  cases ho : run [.word wNar, .bracket] ⟨s, 0, ⟨[], [], ⟨#[]⟩⟩⟩ with
  | no e p =>
    rw [ho] at hS
    have hz : Dead e p (treeN s) := hS
    simp only [failIf_dead hz.ne, if_neg hz.ne, told]
    rw [hz.2.1, hz.2.2]
  | yes y =>
    rw [ho] at hS
    obtain ⟨ha, _, hl, _⟩ := hS
    have hlen := ha.len
    simp only [told]
    by_cases hy : y.left = []
    · rw [if_pos hy]
      have : ¬ (treeN s).pos < s.length := by rw [hy] at hlen; have := ha.pos; simp at hlen; omega
      have e0 : (treeN s).failIf (decide ((treeN s).pos < s.length)) 10 (treeN s).pos = treeN s := by rw [decide_eq_false this]; rfl
      rw [e0, if_pos ha.e, hl]
    · rw [if_neg hy]
      have h1 : 0 < y.left.length := List.length_pos_iff.2 hy
      have : (treeN s).pos < s.length := by have := ha.pos; omega
      simp only [decide_eq_true this, Ns.failIf, if_true, Ns.fail, if_pos ha.e]
      rw [if_neg (by decide), ha.pos]
end Go.Proofs.YticfcjmlphhpgaaDoor
