import Derived.Test.YticfcjmlphhpgabGreatDoorB30
import Derived.Test.YticfcjmlphhpgabGreatDoorB32
/-
  MATHEMATICS of Import, 3: how long what was read is.
-/
namespace Go.Proofs.YticfcjmlphhpgabGreatDoor
open Go.RowKit Go.Maps

/-- A string that was taken, and how much went. -/
theorem runW_yes {i : It} {K : List It} {x z : Pt} (h : run (i :: K) x = .yes z) : ∃ (s : ByteArray) (g : Gr) (push : List It) (y : Pt), takeF x.gr i s = .more g push ∧ y.gr = g ∧ y.left.length + wholeOf s.size = x.left.length ∧ y.left.length < x.left.length ∧ run (push ++ K) y = .yes z := by
  rw [run_cons] at h
  cases ho : one i x with
  | no e p => rw [ho] at h; cases h
  | yes y =>
    obtain ⟨y, push⟩ := y
    rw [ho] at h
    unfold one at ho
    split at ho
    · cases ho
    · cases ho
    · rename_i s rest n hcut
      split at ho
      · cases ho
      · rename_i g' push' ht
        injection ho with ho
        injection ho with h1 h2
        subst h1
        subst h2
        have hc := cutF_ok hcut
        have hl := cutF_len hcut
        have hw := wholeOf_ge s.length
        refine ⟨_, _, _, _, ht, rfl, ?_, ?_, h⟩
        · rw [ba_size]
          have hs : s.length = num8 (x.left.take 8) := by
            rw [hc.2.2.2.2.1, List.length_take, List.length_drop]
            have := wholeOf_ge (num8 (x.left.take 8))
            omega
          rw [hs]
          simp only
          omega
        · simp only
          omega
theorem runW_word {w : ByteArray} {K : List It} {x z : Pt} (h : run (.word w :: K) x = .yes z) : ∃ y : Pt, y.gr = x.gr ∧ y.left.length + wholeOf w.size = x.left.length ∧ y.left.length < x.left.length ∧ run K y = .yes z := by
  obtain ⟨s, g, push, y, ht, hg, hl, hlt, hr⟩ := runW_yes h
  rw [take_word] at ht
  split at ht
  · rename_i hs
    injection ht with h1 h2
    subst h1; subst h2; subst hs
    exact ⟨y, hg, hl, hlt, hr⟩
  · cases ht
def dataW (d : ByteArray) : Nat := wholeOf d.size + wholeOf wClose.size
theorem runW_data {ns : List Nd} {D : Ds} {path p d0 : ByteArray} {k : Int} {x z : Pt} (hg : x.gr = ⟨ns ++ [⟨path, k, d0⟩], D, p⟩) (h : run [.data, .word wClose] x = .yes z) : ∃ d : ByteArray, z.gr = ⟨ns ++ [⟨path, k, d⟩], D, p⟩ ∧ z.left.length + dataW d = x.left.length := by
  obtain ⟨s, g, push, y, ht, hy, hl, _, hr⟩ := runW_yes h
  rw [hg, take_data] at ht
  simp only [lastN_snoc, setN_snoc] at ht
  split at ht
  · injection ht with h1 h2
    subst h1; subst h2
    obtain ⟨y2, hy2, hl2, _, hr2⟩ := runW_word hr
    rw [run_nil] at hr2
    injection hr2 with hr2
    subst hr2
    exact ⟨s, by rw [hy2, hy], by unfold dataW; omega⟩
  · cases ht
/-- What a node takes, without what stands in a directory. -/
def ownW (n : Nd) : Nat := wholeOf wOpen.size + wholeOf wType.size + (if n.kind = 4 then wholeOf wDir.size + wholeOf wClose.size else if n.kind = 3 then wholeOf wLink.size + wholeOf wTo.size + dataW n.data else if n.kind = 2 then wholeOf wFile.size + wholeOf wExec.size + wholeOf wNone.size + wholeOf wData.size + dataW n.data else wholeOf wFile.size + wholeOf wData.size + dataW n.data)
/-- What it takes as an entry of a directory. -/
def entW (n : Nd) : Nat := wholeOf wEntry.size + wholeOf wOpen.size + wholeOf wName.size + wholeOf (nam n.path).size + wholeOf wNode.size + ownW n + wholeOf wClose.size
def entsW (l : List Nd) : Nat := (l.map entW).sum
theorem entsW_app (a b : List Nd) : entsW (a ++ b) = entsW a + entsW b := by unfold entsW; rw [List.map_append, List.sum_append]
theorem entsW_cons (n : Nd) (b : List Nd) : entsW (n :: b) = entW n + entsW b := by unfold entsW; rw [List.map_cons, List.sum_cons]
def treeW : List Nd → Nat
  | [] => 0
  | n :: r => ownW n + entsW r
theorem runW_file {ns : List Nd} {D : Ds} {path p : ByteArray} {x z : Pt} (hg : x.gr = ⟨ns ++ [⟨path, 1, ⟨#[]⟩⟩], D, p⟩) (h : run [.inFile] x = .yes z) : ∃ n : Nd, n.path = path ∧ z.gr = ⟨ns ++ [n], D, p⟩ ∧ z.left.length + ownW n = x.left.length + wholeOf wOpen.size + wholeOf wType.size + wholeOf wFile.size := by
  obtain ⟨s, g, push, y, ht, hy, hl, _, hr⟩ := runW_yes h
  rw [hg, take_inFile] at ht
  simp only [lastN_snoc, setN_snoc] at ht
  split at ht
  · rename_i hs
    injection ht with h1 h2
    subst h1; subst h2; subst hs
    obtain ⟨y1, e1, l1, _, hr⟩ := runW_word hr
    obtain ⟨y2, e2, l2, _, hr⟩ := runW_word hr
    obtain ⟨d, hz, l3⟩ := runW_data (by rw [e2, e1, hy]) hr
    refine ⟨_, rfl, hz, ?_⟩
    unfold ownW
    simp only [if_neg (show ¬ (2 : Int) = 4 by decide), if_neg (show ¬ (2 : Int) = 3 by decide), if_true]
    omega
  · split at ht
    · rename_i hs
      injection ht with h1 h2
      subst h1; subst h2; subst hs
      obtain ⟨d, hz, l3⟩ := runW_data hy hr
      refine ⟨_, rfl, hz, ?_⟩
      unfold ownW
      simp only [if_neg (show ¬ (1 : Int) = 4 by decide), if_neg (show ¬ (1 : Int) = 3 by decide), if_neg (show ¬ (1 : Int) = 2 by decide)]
      omega
    · cases ht
/-- Directories, with so much left. -/
def DirW (f : Nat) : Prop := ∀ (ns : List Nd) (D : Ds) (q P last p : ByteArray) (x z : Pt), x.left.length < f → x.gr = ⟨ns, D ++ [(P, last)], p⟩ → P = prefixIn q → run [.inDir] x = .yes z → z.gr.dirs = D ∧ ∃ new, z.gr.nodes = ns ++ new ∧ z.left.length + entsW new + wholeOf wClose.size = x.left.length
def NodeW (ns : List Nd) (D : Ds) (path : ByteArray) (more : Nat) (x z : Pt) : Prop := z.gr.dirs = D ∧ ∃ n new, z.gr.nodes = ns ++ n :: new ∧ n.path = path ∧ z.left.length + ownW n + entsW new = x.left.length + more
theorem kindW {f : Nat} (hD : DirW f) {ns : List Nd} {D : Ds} {path p : ByteArray} {x z : Pt} (hx : x.left.length < f) (hg : x.gr = ⟨ns ++ [⟨path, 0, ⟨#[]⟩⟩], D, p⟩) (h : run [.kind] x = .yes z) : NodeW ns D path (wholeOf wOpen.size + wholeOf wType.size) x z := by
  obtain ⟨s, g, push, y, ht, hy, hl, hlt, hr⟩ := runW_yes h
  rw [hg, take_kind] at ht
  simp only [lastN_snoc, setN_snoc] at ht
  split at ht
  · rename_i hs
    injection ht with h1 h2
    subst h1; subst h2; subst hs
    obtain ⟨n, n1, hz, hlz⟩ := runW_file hy hr
    refine ⟨by rw [hz], n, [], by rw [hz], n1, ?_⟩
    show _ + 0 = _
    omega
  · split at ht
    · rename_i hs
      injection ht with h1 h2
      subst h1; subst h2; subst hs
      obtain ⟨y1, e1, l1, _, hr⟩ := runW_word hr
      obtain ⟨d, hz, l2⟩ := runW_data (by rw [e1, hy]) hr
      refine ⟨by rw [hz], _, [], by rw [hz], rfl, ?_⟩
      unfold ownW
      simp only [if_neg (show ¬ (3 : Int) = 4 by decide), if_true]
      show _ + 0 = _
      omega
    · split at ht
      · rename_i hs
        injection ht with h1 h2
        subst h1; subst h2; subst hs
        obtain ⟨d1, new, d2, d3⟩ := hD (ns ++ [⟨path, 4, ⟨#[]⟩⟩]) D path (prefixIn path) ⟨#[]⟩ p y z (by omega) hy rfl hr
        refine ⟨d1, ⟨path, 4, ⟨#[]⟩⟩, new, by rw [d2]; simp, rfl, ?_⟩
        unfold ownW
        simp only [if_true]
        omega
      · cases ht
theorem nodeW {f : Nat} (hD : DirW f) {ns : List Nd} {D : Ds} {path : ByteArray} {x z : Pt} (hx : x.left.length < f) (hg : x.gr = ⟨ns, D, path⟩) (h : run [.bracket] x = .yes z) : NodeW ns D path 0 x z := by
  obtain ⟨s, g, push, y, ht, hy, hl, hlt, hr⟩ := runW_yes h
  rw [hg, take_bracket] at ht
  simp only at ht
  split at ht
  · rename_i hs
    split at ht
    · cases ht
    · split at ht
      · cases ht
      · injection ht with h1 h2
        subst h1; subst h2; subst hs
        obtain ⟨y1, e1, l1, lt1, hr⟩ := runW_word hr
        obtain ⟨k1, n, new, k2, k3, k4⟩ := kindW hD (by omega) (by rw [e1, hy]) hr
        exact ⟨k1, n, new, k2, k3, by omega⟩
  · cases ht
theorem dirW : ∀ f, DirW f
  | 0 => fun _ _ _ _ _ _ x _ hx => by omega
  | f + 1 => by
    intro ns D q P last p x z hx hg hP h
    obtain ⟨s, g, push, y, ht, hy, hl, hlt, hr⟩ := runW_yes h
    rw [hg, take_inDir] at ht
    simp only at ht
    split at ht
    · rename_i hs
      injection ht with h1 h2
      subst h1; subst h2; subst hs
      obtain ⟨y1, e1, l1, t1, hr⟩ := runW_word hr
      obtain ⟨y2, e2, l2, t2, hr⟩ := runW_word hr
      obtain ⟨nm, g3, push3, y3, ht3, hy3, l3, t3, hr⟩ := runW_yes hr
      rw [e2, e1, hy, take_name] at ht3
      simp only [lastD_snoc, setD_snoc] at ht3
      split at ht3
      · cases ht3
      · rename_i hnm
        split at ht3
        · cases ht3
        · injection ht3 with h1 h2
          subst h1; subst h2
          obtain ⟨y4, e4, l4, t4, hr⟩ := runW_word hr
          have hnm' : isNameB nm.data.toList = true := by simpa using hnm
          have hr : run ([.bracket] ++ [.word wClose, .inDir]) y4 = .yes z := hr
          rw [run_app] at hr
          cases hb : run [.bracket] y4 with
          | no e p => rw [hb] at hr; cases hr
          | yes y5 =>
            rw [hb] at hr
            have hr : run [.word wClose, .inDir] y5 = .yes z := hr
            have hl5 := run_len _ _ _ hb
            obtain ⟨d1, n, new, d2, d3, d4⟩ := nodeW (dirW f) (by omega) (by rw [e4, hy3]) hb
            obtain ⟨y6, e6, l6, t6, hr⟩ := runW_word hr
            obtain ⟨c1, new2, c2, c3⟩ := dirW f y5.gr.nodes D q P nm y5.gr.path y6 z (by omega) (by
              rw [e6]
              cases hy5 : y5.gr
              rw [hy5] at d1
              simp only at d1
              rw [d1]) hP hr
            refine ⟨c1, n :: new ++ new2, by rw [c2, d2]; simp, ?_⟩
            have hpd : (P ++ nm).data.toList = pin q.data.toList ++ nm.data.toList := by rw [data_append, hP, prefixIn_data]
            have hnam : nam n.path = nm := by rw [d3]; exact ba_eqL (by rw [nam_data, hpd, namL_path _ _ (name_slash _ hnm')])
            rw [entsW_app, entsW_cons]
            unfold entW
            rw [hnam]
            omega
    · split at ht
      · rename_i hs
        injection ht with h1 h2
        subst h1; subst h2; subst hs
        rw [List.nil_append, run_nil] at hr
        injection hr with hr
        subst hr
        rw [hy]
        refine ⟨by simp, [], by simp, ?_⟩
        show _ + 0 + _ = _
        omega
      · cases ht
/-- HOW LONG WHAT WAS READ IS: the tree tells it. -/
theorem runW_tree {x z : Pt} (hg : x.gr = g0) (h : run [.word wNar, .bracket] x = .yes z) : z.left.length + (wholeOf wNar.size + treeW z.gr.nodes) = x.left.length := by
  obtain ⟨y, e, l, _, hr⟩ := runW_word h
  obtain ⟨h1, n, new, h2, h3, h4⟩ := nodeW (dirW (y.left.length + 1)) (by omega) (by rw [e, hg]) hr
  rw [h2]
  show _ + (_ + (ownW n + entsW new)) = _
  omega
theorem packBytes_len {ns : List Nd} (hw : firstW ns = none) : (packBytes ns).length = wholeOf wNar.size + treeW ns := by
  obtain ⟨hne, Z, hZ⟩ := firstW_none hw
  obtain ⟨g, hg, hr⟩ := pack_reads ns Z hne hZ
  have h2 : exec (packBytes ns ++ []).length [.word wNar, .bracket] ⟨packBytes ns ++ [], 0, g0⟩ = .yes ⟨[], 0 + (packBytes ns).length, g⟩ := hr [] 0
  have := runW_tree (x := ⟨packBytes ns ++ [], 0, g0⟩) rfl h2
  simp only [List.append_nil, List.length_nil, hg] at this
  omega
/-- WHAT WAS READ IS AS LONG AS WHAT IT IS WRITTEN. -/
theorem run_long {x z : Pt} (hg : x.gr = g0) (h : run [.word wNar, .bracket] x = .yes z) : z.left.length + (packBytes z.gr.nodes).length = x.left.length := by
  rw [packBytes_len (run_tree hg h).2.2]
  exact runW_tree hg h
end Go.Proofs.YticfcjmlphhpgabGreatDoor
/-
  MATHEMATICS of Import, 4: bytes that were taken into an empty store are as long as what is exported of it; a part of them ends too soon; where an error lies.
-/
namespace Go.Proofs.YticfcjmlphhpgabGreatDoor
open Go.RowKit Go.Maps

/-- What an entry takes. -/
def wE (e : Ent) : Nat := (entBs e.path (packB e.nodes) e.refs).length
def sumE (S : List Ent) : Nat := (S.map wE).sum
theorem sumE_cons (x : Ent) (S : List Ent) : sumE (x :: S) = wE x + sumE S := by unfold sumE; rw [List.map_cons, List.sum_cons]
theorem sumE_ins (x : Ent) : ∀ S : List Ent, sumE (insS x S) = wE x + sumE S
  | [] => sumE_cons x []
  | z :: S => by
    have e2 : insS x (z :: S) = if bytesBefore x.path.data.toList z.path.data.toList = true then x :: z :: S else z :: insS x S := rfl
    rw [e2]
    split
    · rw [sumE_cons]
    · rw [sumE_cons, sumE_ins x S, sumE_cons]; omega
theorem not_two {a b : List ByteArray} {A T : List Ent} {e : Int} {p : Nat} (h : ((a, e, p), A) = ((b, (0 : Int), 0), T)) (he : (e == 0) = false) : False := by
  injection h with h _
  injection h with _ h
  injection h with h _
  rw [h] at he
  cases he
theorem one_no {i : It} {x : Pt} {e : Int} {p : Nat} (h : one i x = .no e p) : (e == 0) = false := by
  unfold one at h
  split at h
  · injection h with h _; subst h; rfl
  · rename_i e' hc
    injection h with h _
    subst h
    rcases cutF_bad hc with rfl | rfl <;> rfl
  · split at h
    · rename_i e' ht
      injection h with h _
      subst h
      exact takeF_err ht
    · cases h
theorem exec_no : ∀ (f : Nat) (K : List It) (x : Pt) (e : Int) (p : Nat), exec f K x = .no e p → (e == 0) = false
  | f, [], x, e, p, h => by
    have h : (Ex.yes x : Ex Pt) = .no e p := by cases f <;> exact h
    cases h
  | 0, _ :: _, x, e, p, h => by
    simp only [exec] at h
    injection h with h _
    subst h
    rfl
  | f + 1, i :: K, x, e, p, h => by
    simp only [exec] at h
    cases ho : one i x with
    | no e' p' =>
      rw [ho] at h
      have h : (Ex.no e' p' : Ex Pt) = .no e p := h
      injection h with h1 h2
      subst h1
      exact one_no ho
    | yes z =>
      rw [ho] at h
      exact exec_no f _ _ e p h
section
variable {A : List Ent} {ad : List ByteArray} {T : List Ent}
/-- An import that was taken: a string was. -/
theorem inv_take {m : IS} (hln : m.ln ≠ 0) (h : finI A m = ((ad, 0, 0), T)) : ∃ (s : ByteArray) (rest : Bs) (m' : IS) (n : Nat), takeI m s = .more m' ∧ rest.length + wholeOf s.size = m.left.length ∧ rest.length < m.left.length ∧ finI A { m' with left := rest, pos := n } = ((ad, 0, 0), T) := by
  rw [finI_step] at h
  cases hs : stepI m with
  | stop =>
    rw [hs] at h
    simp only [impEnd, if_neg hln] at h
    exact (not_two h rfl).elim
  | fail e p => rw [hs] at h; exact (not_two h (stepI_fail hs).2).elim
  | go m2 =>
    rw [hs] at h
    unfold stepI at hs
    rw [if_neg hln] at hs
    cases hc : cutF m.left m.most with
    | wait => rw [hc] at hs; cases hs
    | bad e => rw [hc] at hs; cases hs
    | ok s rest n =>
      rw [hc] at hs
      simp only [takenI] at hs
      cases ht : takeI m ⟨s.toArray⟩ with
      | err e => rw [ht] at hs; cases hs
      | more m' =>
        rw [ht] at hs
        injection hs with hs
        subst hs
        have hk := cutF_ok hc
        have hl := cutF_len hc
        refine ⟨_, rest, m', _, ht, ?_, by omega, h⟩
        rw [ba_size]
        have hs : s.length = num8 (m.left.take 8) := by
          rw [hk.2.2.2.2.1, List.length_take, List.length_drop]
          have := wholeOf_ge (num8 (m.left.take 8))
          omega
        rw [hs]
        omega
section
variable {l : Bs} {pos : Nat} {all : List Ent} {came added refs : List ByteArray} {g : Gr}
theorem inv_done (h : finI A ⟨l, pos, .done, all, came, added, refs, g⟩ = ((ad, 0, 0), T)) : l = [] ∧ ad = added ∧ T = all := by
  rw [finI_step] at h
  have hln : IS.ln ⟨l, pos, .done, all, came, added, refs, g⟩ = 0 := rfl
  unfold stepI at h
  rw [if_pos hln] at h
  by_cases hl : l = []
  · subst hl
    rw [if_pos rfl] at h
    have h : ((added, (0 : Int), 0), all) = ((ad, (0 : Int), 0), T) := h
    injection h with h1 h2
    injection h1 with h1 _
    exact ⟨rfl, h1.symm, h2.symm⟩
  · rw [if_neg hl] at h
    exact (not_two h rfl).elim
theorem inv_head (h : finI A ⟨l, pos, .head, all, came, added, refs, g⟩ = ((ad, 0, 0), T)) : ∃ rest n, rest.length + wholeOf wExp.size = l.length ∧ finI A ⟨rest, n, .ent, all, came, added, refs, g⟩ = ((ad, 0, 0), T) := by
  obtain ⟨s, rest, m', n, ht, hl, _, hr⟩ := inv_take (by simp [IS.ln]) h
  simp only [takeI] at ht
  split at ht
  · rename_i hs
    injection ht with ht
    subst ht; subst hs
    exact ⟨rest, n, hl, hr⟩
  · cases ht
theorem inv_ent (h : finI A ⟨l, pos, .ent, all, came, added, refs, g⟩ = ((ad, 0, 0), T)) : (l.length = wholeOf wEnd.size ∧ ad = added ∧ T = all) ∨ ∃ rest n, rest.length + wholeOf wPath.size = l.length ∧ rest.length < l.length ∧ finI A ⟨rest, n, .path, all, came, added, refs, g⟩ = ((ad, 0, 0), T) := by
  obtain ⟨s, rest, m', n, ht, hl, hlt, hr⟩ := inv_take (by simp [IS.ln]) h
  simp only [takeI] at ht
  split at ht
  · rename_i hs
    injection ht with ht
    subst ht; subst hs
    exact .inr ⟨rest, n, hl, hlt, hr⟩
  · split at ht
    · rename_i hs
      injection ht with ht
      subst ht; subst hs
      obtain ⟨h1, h2, h3⟩ := inv_done hr
      rw [h1] at hl
      simp only [List.length_nil, Nat.zero_add] at hl
      exact .inl ⟨hl.symm, h2, h3⟩
    · cases ht
theorem inv_path (h : finI A ⟨l, pos, .path, all, came, added, refs, g⟩ = ((ad, 0, 0), T)) : ∃ p rest n, inL came p = false ∧ rest.length + wholeOf p.size = l.length ∧ rest.length < l.length ∧ finI A ⟨rest, n, .tree [.word wNar, .bracket], all, came ++ [p], added, [], g0⟩ = ((ad, 0, 0), T) := by
  obtain ⟨s, rest, m', n, ht, hl, hlt, hr⟩ := inv_take (by simp [IS.ln]) h
  rw [takeI_path] at ht
  split at ht
  · cases ht
  · split at ht
    · cases ht
    · rename_i hc
      injection ht with ht
      subst ht
      exact ⟨s, rest, n, by simpa using hc, hl, hlt, hr⟩
theorem inv_tree (h : finI A ⟨l, pos, .tree [.word wNar, .bracket], all, came, added, refs, g0⟩ = ((ad, 0, 0), T)) : ∃ rest n g, rest.length + (packBytes g.nodes).length = l.length ∧ finI A ⟨rest, n, .tree [], all, came, added, refs, g⟩ = ((ad, 0, 0), T) := by
  rw [finI_tree A l.length _ _ _ _ _ _ _ _ (Nat.le_refl _)] at h
  cases hx : exec l.length [.word wNar, .bracket] ⟨l, pos, g0⟩ with
  | no e p =>
    rw [hx] at h
    exact (not_two h (exec_no _ _ _ _ _ hx)).elim
  | yes z =>
    rw [hx] at h
    have := run_long (x := ⟨l, pos, g0⟩) (z := z) rfl hx
    exact ⟨z.left, z.pos, z.gr, this, h⟩
theorem inv_tree0 (h : finI A ⟨l, pos, .tree [], all, came, added, refs, g⟩ = ((ad, 0, 0), T)) : ∃ rest n, rest.length + wholeOf wRefs.size = l.length ∧ finI A ⟨rest, n, .refs, all, came, added, refs, g⟩ = ((ad, 0, 0), T) := by
  obtain ⟨s, rest, m', n, ht, hl, hlt, hr⟩ := inv_take (by simp [IS.ln]) h
  simp only [takeI] at ht
  split at ht
  · rename_i hs
    injection ht with ht
    subst ht; subst hs
    exact ⟨rest, n, hl, hr⟩
  · cases ht
theorem inv_ref (h : finI A ⟨l, pos, .ref, all, came, added, refs, g⟩ = ((ad, 0, 0), T)) : ∃ r rest n, lackS all (lastS came) r = false ∧ rest.length + wholeOf r.size = l.length ∧ rest.length < l.length ∧ finI A ⟨rest, n, .refs, all, came, added, refs ++ [r], g⟩ = ((ad, 0, 0), T) := by
  obtain ⟨s, rest, m', n, ht, hl, hlt, hr⟩ := inv_take (by simp [IS.ln]) h
  rw [takeI_ref] at ht
  split at ht
  · cases ht
  · split at ht
    · cases ht
    · rename_i hc
      injection ht with ht
      subst ht
      exact ⟨s, rest, n, by simpa using hc, hl, hlt, hr⟩
theorem inv_sum (h : finI A ⟨l, pos, .sum, all, came, added, refs, g⟩ = ((ad, 0, 0), T)) (hf : findS all (lastS came) = none) : ∃ rest n, rest.length + wholeOf 8 = l.length ∧ rest.length < l.length ∧ finI A ⟨rest, n, .ent, insS ⟨lastS came, g.nodes, refs⟩ all, came, added ++ [lastS came], refs, g⟩ = ((ad, 0, 0), T) := by
  obtain ⟨s, rest, m', n, ht, hl, hlt, hr⟩ := inv_take (by simp [IS.ln]) h
  rw [takeI_sum] at ht
  split at ht
  · rename_i hs
    split at ht
    · rename_i hp
      injection ht with ht
      subst ht; subst hs
      have hput : putS all ⟨lastS came, g.nodes, refs⟩ = (0, insS ⟨lastS came, g.nodes, refs⟩ all) := by
        unfold putS at hp ⊢
        simp only [hf] at hp ⊢
        split at hp
        · exact absurd hp (show ¬ (14 : Int) = 0 by decide)
        · rename_i h10
          rw [if_neg h10]
      have hz : (sumG g).size = 8 := sumO_size _
      rw [hput, hf] at hr
      exact ⟨rest, n, by rw [hz] at hl; exact hl, hlt, hr⟩
    · cases ht
  · cases ht
end
theorem inv_refs {all : List Ent} {came added : List ByteArray} {g : Gr} : ∀ (f : Nat) (l : Bs) (pos : Nat) (refs : List ByteArray), l.length ≤ f → (∀ r ∈ refs, lackS all (lastS came) r = false) → finI A ⟨l, pos, .refs, all, came, added, refs, g⟩ = ((ad, 0, 0), T) →
    ∃ more rest n, rest.length + (refsBs more).length + wholeOf wSum.size = l.length ∧ (∀ r ∈ refs ++ more, lackS all (lastS came) r = false) ∧ finI A ⟨rest, n, .sum, all, came, added, refs ++ more, g⟩ = ((ad, 0, 0), T)
  | 0, l, pos, refs, hf, _, h => by
    obtain ⟨s, rest, m', n, ht, hl, hlt, hr⟩ := inv_take (by simp [IS.ln]) h
    simp only at hlt
    omega
  | f + 1, l, pos, refs, hf, hlk, h => by
    obtain ⟨s, rest, m', n, ht, hl, hlt, hr⟩ := inv_take (by simp [IS.ln]) h
    simp only [takeI] at ht
    split at ht
    · rename_i hs
      injection ht with ht
      subst ht; subst hs
      obtain ⟨r, rest2, n2, hlr, hl2, hlt2, hr2⟩ := inv_ref hr
      obtain ⟨more, rest3, n3, h1, h2, h3⟩ := inv_refs f rest2 n2 (refs ++ [r]) (by simp only at hlt; omega) (fun x hx => by
        rcases List.mem_append.1 hx with hx | hx
        · exact hlk x hx
        · rw [List.mem_singleton.1 hx]; exact hlr) hr2
      refine ⟨r :: more, rest3, n3, ?_, fun x hx => h2 x (by simpa using hx), by simpa using h3⟩
      have e : refsBs (r :: more) = bytesOf [wRef, r] ++ refsBs more := by simp [refsBs]
      have e1 : (enc wRef.data.toList).length = wholeOf wRef.size := by rw [enc_len]; simp
      have e2 : (enc r.data.toList).length = wholeOf r.size := by rw [enc_len]; simp
      rw [e, List.length_append, len2, e1, e2]
      simp only at hl
      omega
    · split at ht
      · rename_i hs
        injection ht with ht
        subst ht; subst hs
        exact ⟨[], rest, n, by simpa [refsBs] using hl, fun x hx => hlk x (by simpa using hx), by simpa using hr⟩
      · cases ht
end
theorem encW (s : ByteArray) : (enc s.data.toList).length = wholeOf s.size := by rw [enc_len]; simp
/-- Where an import into nothing stands between entries. -/
structure Imp (all : List Ent) (ad : List ByteArray) : Prop where
  nd : ad.Nodup
  key : ∀ p, p ∈ ad ↔ (findS all p).isSome = true
  ord : ∀ e ∈ all, ∃ a b, ad = a ++ e.path :: b ∧ ∀ r ∈ e.refs, r = e.path ∨ r ∈ a
theorem Imp.nil : Imp [] [] := ⟨List.nodup_nil, fun p => by simp [findS], fun e he => by cases he⟩
theorem Imp.add {all : List Ent} {ad : List ByteArray} (h : Imp all ad) {x : Ent} (hp : ¬ x.path ∈ ad) (hl : ∀ r ∈ x.refs, lackS all x.path r = false) : findS all x.path = none ∧ Imp (insS x all) (ad ++ [x.path]) := by
  have hf : findS all x.path = none := by
    cases hx : findS all x.path with
    | none => rfl
    | some y => exact absurd ((h.key x.path).2 (by rw [hx]; rfl)) hp
  refine ⟨hf, ?_, fun p => ?_, fun e he => ?_⟩
  · rw [List.nodup_append]
    refine ⟨h.nd, by simp, fun a ha b hb e => ?_⟩
    rw [List.mem_singleton] at hb
    subst hb; subst e
    exact hp ha
  · rw [findS_insS _ _ _ hf, List.mem_append, List.mem_singleton]
    by_cases e : p = x.path
    · rw [if_pos e]; simp [e]
    · rw [if_neg e, ← h.key p]; simp [e]
  · rcases insS_mem he with rfl | he
    · refine ⟨ad, [], rfl, fun r hr => ?_⟩
      have h1 := hl r hr
      unfold lackS at h1
      by_cases e1 : r = e.path
      · exact .inl e1
      · rw [decide_eq_false e1] at h1
        simp only [Bool.not_false, Bool.true_and] at h1
        refine .inr ((h.key r).2 ?_)
        cases hx : findS all r with
        | none => rw [hx] at h1; cases h1
        | some y => rfl
    · obtain ⟨a, b, h1, h2⟩ := h.ord e he
      exact ⟨a, b ++ [x.path], by rw [h1]; simp, h2⟩
/-- ENTRY BY ENTRY. -/
theorem imp_all {A : List Ent} {ad : List ByteArray} {T : List Ent} : ∀ (f : Nat) (l : Bs) (pos : Nat) (all : List Ent) (came r : List ByteArray) (g : Gr), l.length ≤ f → Imp all came → finI A ⟨l, pos, .ent, all, came, came, r, g⟩ = ((ad, 0, 0), T) → Imp T ad ∧ l.length + sumE all = sumE T + wholeOf wEnd.size
  | f, l, pos, all, came, r, g, hf, hI, h => by
    rcases inv_ent h with ⟨h1, h2, h3⟩ | ⟨l1, n1, k1, t1, h⟩
    · subst h2; subst h3
      exact ⟨hI, by omega⟩
    · obtain ⟨p, l2, n2, hc, k2, t2, h⟩ := inv_path h
      obtain ⟨l3, n3, g3, k3, h⟩ := inv_tree h
      obtain ⟨l4, n4, k4, h⟩ := inv_tree0 h
      obtain ⟨refs, l5, n5, k5, hlk, h⟩ := inv_refs l4.length l4 n4 [] (Nat.le_refl _) (fun x hx => by cases hx) h
      rw [List.nil_append] at h hlk
      have hlast : lastS (came ++ [p]) = p := by simp [lastS, List.getD]
      rw [hlast] at hlk
      have hpn : ¬ p ∈ came := fun hm => by rw [HP.inL_iff.2 hm] at hc; cases hc
      obtain ⟨hfn, hI2⟩ := hI.add (x := ⟨p, g3.nodes, refs⟩) hpn hlk
      obtain ⟨l6, n6, k6, t6, h⟩ := inv_sum h (by rw [hlast]; exact hfn)
      rw [hlast] at h
      have hf0 : 0 < f := by omega
      obtain ⟨f', rfl⟩ : ∃ f', f = f' + 1 := ⟨f - 1, by omega⟩
      obtain ⟨r1, r2⟩ := imp_all f' l6 n6 _ _ _ _ (by omega) hI2 h
      refine ⟨r1, ?_⟩
      rw [sumE_ins] at r2
      have hw : wE ⟨p, g3.nodes, refs⟩ = wholeOf wPath.size + wholeOf p.size + (packBytes g3.nodes).length + wholeOf wRefs.size + (refsBs refs).length + (wholeOf wSum.size + wholeOf 8) := by
        have hlen : (packB g3.nodes).size = (packBytes g3.nodes).length := by unfold packB; simp [ByteArray.size]
        have hz : (sumO (packB g3.nodes)).size = 8 := sumO_size _
        unfold wE
        simp only
        rw [entBs_length, len2, len1, len2, encW, encW, encW, encW, encW, hlen, hz]
      omega
  termination_by f => f
theorem tw_lt : ∀ (a l : List ByteArray) (r : ByteArray), r ∈ a → ((a ++ l).takeWhile fun y => decide (y ≠ r)).length < a.length
  | [], l, r, h => by cases h
  | x :: a, l, r, h => by
    rw [List.cons_append, List.takeWhile_cons]
    by_cases e : x = r
    · rw [if_neg (by simp [e])]; simp
    · rw [if_pos (by simp [e])]
      have hr : r ∈ a := by
        rcases List.mem_cons.1 h with h | h
        · exact absurd h.symm e
        · exact h
      have := tw_lt a l r hr
      simp only [List.length_cons]
      omega
theorem tw_eq : ∀ (a l : List ByteArray) (r : ByteArray), ¬ r ∈ a → ((a ++ r :: l).takeWhile fun y => decide (y ≠ r)).length = a.length
  | [], l, r, h => by simp
  | x :: a, l, r, h => by
    have e : ¬ x = r := fun e => h (by rw [e]; simp)
    rw [List.cons_append, List.takeWhile_cons, if_pos (by simp [e])]
    have := tw_eq a l r (fun hm => h (List.mem_cons_of_mem _ hm))
    simp only [List.length_cons]
    omega
theorem Imp.acyc {T : List Ent} {ad : List ByteArray} (h : Imp T ad) : Acyc T := by
  refine ⟨fun p => (ad.takeWhile fun y => decide (y ≠ p)).length, fun e he r hr => ?_⟩
  obtain ⟨a, b, h1, h2⟩ := h.ord e he
  rcases h2 r hr with h3 | h3
  · exact .inl h3
  · right
    have hn : ¬ e.path ∈ a := by
      have hnd := h.nd
      rw [h1, List.nodup_append] at hnd
      exact fun hm => hnd.2.2 e.path hm e.path (by simp) rfl
    simp only
    rw [h1, tw_eq a b e.path hn]
    exact tw_lt a _ r h3
theorem outBs_sum {P : ByteArray → Bool} {S : List Ent} {out : List ByteArray} (hR : Rising S) (h : HP.OrdSt P S out) : (outBs S out).length = sumE (Tof S out) := by
  induction h with
  | nil => rfl
  | @snoc out e ho hn ih =>
    obtain ⟨he, hi, _⟩ := next_some hn
    have hfe := findS_eq hR he
    have heo : entOf S e.path = entBs e.path (packB e.nodes) e.refs := by unfold entOf; rw [hfe]
    have eo : outBs S (out ++ [e.path]) = outBs S out ++ entBs e.path (packB e.nodes) e.refs := by
      unfold outBs
      rw [List.flatMap_append]
      simp [heo]
    rw [eo, Tof_snoc hfe, sumE_ins, List.length_append, ih]
    unfold wE
    omega
/-- How long an export of all is. -/
theorem export_len {T : List Ent} {roots out : List ByteArray} (hT : OkE T) (hA : Acyc T) (hlk : lackR T roots = false) (hk : ∀ e ∈ T, e.path ∈ roots) (hc : ClosR T roots out) : (exportB T roots out).size = 32 + sumE T := by
  have w1 : wholeOf wExp.size = 16 := by decide
  have w2 : wholeOf wEnd.size = 16 := by decide
  have hR := hT.ok.closed.rise
  unfold ClosR at hc
  rw [if_neg (by rw [hlk]; simp)] at hc
  have hfull := final_full hA hT.ok.closed hlk hc
  have hall : T.filter (fun e => inL out e.path) = T := List.filter_eq_self.2 fun e he => hfull e.path (.root (hk e he))
  have hs : (exportB T roots out).size = (expBs T out).length := by
    unfold exportB
    rw [if_neg (by rw [hlk]; simp)]
    simp [ByteArray.size]
  rw [hs]
  unfold expBs
  rw [List.length_append, List.length_append, len1, len1, encW, encW, outBs_sum hR hc.1, Tof_filter hR hc.1, hall]
  omega
/-- BYTES THAT WERE TAKEN ARE AS LONG AS WHAT IS EXPORTED OF THEM. -/
theorem import_long {t : Bs} {ad : List ByteArray} {T : List Ent} (ht : t.length ≤ 1000000000) (h : importF [] t = ((ad, 0, 0), T)) : OkE T ∧ lackR T ad = false ∧ (ad = [] → t.length = 32) ∧ ad.length ≤ 10 ∧ (∀ p ∈ ad, p.size ≤ 12) ∧ ∀ out, ClosR T ad out → (exportB T ad out).size = t.length := by
  have hT : OkE T := by
    have := OkE.nil.import t ht
    rw [h] at this
    exact this
  rw [importF_fin] at h
  obtain ⟨l1, n1, k1, h⟩ := inv_head h
  obtain ⟨hI, hlen⟩ := imp_all l1.length l1 n1 [] [] _ _ (Nat.le_refl _) Imp.nil h
  have hlk : lackR T ad = false := by
    unfold lackR
    rw [List.any_eq_false]
    intro p hp
    have := (hI.key p).1 hp
    cases hx : findS T p with
    | none => rw [hx] at this; cases this
    | some y => simp
  have w1 : wholeOf wExp.size = 16 := by decide
  have w2 : wholeOf wEnd.size = 16 := by decide
  have hz : sumE [] = 0 := rfl
  have hR := hT.ok.closed.rise
  have hmem : ∀ p ∈ ad, ∃ e ∈ T, e.path = p := fun p hp => by
    have := (hI.key p).1 hp
    cases hx : findS T p with
    | none => rw [hx] at this; cases this
    | some y => exact ⟨y, findS_some hx⟩
  refine ⟨hT, hlk, fun e => ?_, ?_, fun p hp => ?_, fun out hc => ?_⟩
  · have hTn : T = [] := by
      cases T with
      | nil => rfl
      | cons x T' =>
        obtain ⟨a, b, h1, _⟩ := hI.ord x List.mem_cons_self
        rw [e] at h1
        cases a <;> cases h1
    rw [hTn] at hlen
    omega
  · have h1 := sub_len ad (T.map (·.path)) hI.nd (fun p hp => by
      obtain ⟨e, he, hp⟩ := hmem p hp
      exact List.mem_map.2 ⟨e, he, hp⟩)
    rw [List.length_map] at h1
    have := hT.ok.closed.few
    omega
  · obtain ⟨e, he, rfl⟩ := hmem p hp
    exact hT.path e he
  · rw [export_len hT hI.acyc hlk (fun e he => (hI.key e.path).2 (by rw [findS_eq hR he]; rfl)) hc]
    omega
/-- A part of what would be taken ends too soon. -/
theorem fin_short {A : List Ent} {ad : List ByteArray} {T : List Ent} {b : Bs} (hb : b ≠ []) : ∀ (f : Nat) (m : IS), m.left.length ≤ f → finI A (m.add b) = ((ad, 0, 0), T) → finI A m = (([], 2, m.pos + m.left.length), A)
  | f, m, hf, h => by
    obtain ⟨g1, g2⟩ := stepI_add m b
    rw [finI_step]
    cases hs : stepI m with
    | go m' =>
      have hg := stepI_go hs
      rw [finI_step, g1 m' hs] at h
      obtain ⟨f', rfl⟩ : ∃ f', f = f' + 1 := ⟨f - 1, by omega⟩
      simp only at h ⊢
      rw [fin_short hb f' m' (by omega) h, hg.2]
    | fail e p =>
      rw [finI_step, g2 e p hs] at h
      exact (not_two h (stepI_fail hs).2).elim
    | stop =>
      simp only [impEnd]
      by_cases hln : m.ln = 0
      · rw [finI_step] at h
        have h1 : stepI (m.add b) = .fail 10 m.pos := by
          unfold stepI
          have e1 : (m.add b).ln = 0 := hln
          have e2 : ¬ (m.add b).left = [] := by show ¬ m.left ++ b = []; simp [hb]
          rw [if_pos e1, if_neg e2]
          rfl
        rw [h1] at h
        exact (not_two h rfl).elim
      · rw [if_neg hln]
  termination_by f => f
theorem import_short {A : List Ent} {ad : List ByteArray} {T : List Ent} {t b : Bs} (hb : b ≠ []) (h : importF A (t ++ b) = ((ad, 0, 0), T)) : importF A t = (([], 2, t.length), A) := by
  rw [importF_fin] at h ⊢
  have := fin_short hb t.length ⟨t, 0, .head, A, [], [], [], g0⟩ (Nat.le_refl _) h
  rw [this]
  simp
theorem stepI_place {st : IS} {e : Int} {p : Nat} (h : stepI st = .fail e p) : p = st.pos := by
  unfold stepI at h
  split at h
  · split at h
    · cases h
    · injection h with _ h; exact h.symm
  · unfold takenI at h
    split at h
    · cases h
    · injection h with _ h; exact h.symm
    · split at h
      · injection h with _ h; exact h.symm
      · cases h
/-- What is told of an import that was not taken. -/
theorem fin_place {A : List Ent} : ∀ (f : Nat) (m : IS), m.left.length ≤ f → (finI A m).1.2.1 = 0 ∧ (finI A m).1.2.2 = 0 ∨ (finI A m).1.2.1 ≠ 0 ∧ (finI A m).1.1 = [] ∧ (finI A m).2 = A ∧ (finI A m).1.2.2 ≤ m.pos + m.left.length
  | f, m, hf => by
    rw [finI_step]
    cases hs : stepI m with
    | go m' =>
      have hg := stepI_go hs
      obtain ⟨f', rfl⟩ : ∃ f', f = f' + 1 := ⟨f - 1, by omega⟩
      simp only
      rw [← hg.2]
      exact fin_place f' m' (by omega)
    | fail e p =>
      have := (stepI_fail hs).2
      exact .inr ⟨(beq_eq_false_iff_ne.1 this), rfl, rfl, by rw [stepI_place hs]; exact Nat.le_add_right _ _⟩
    | stop =>
      simp only [impEnd]
      by_cases hln : m.ln = 0
      · rw [if_pos hln]; exact .inl ⟨rfl, rfl⟩
      · rw [if_neg hln]; exact .inr ⟨(show ¬ (2 : Int) = 0 by decide), rfl, rfl, Nat.le_refl _⟩
  termination_by f => f
theorem import_place {A : List Ent} (t : Bs) : (importF A t).1.2.1 = 0 ∧ (importF A t).1.2.2 = 0 ∨ (importF A t).1.2.1 ≠ 0 ∧ (importF A t).1.1 = [] ∧ (importF A t).2 = A ∧ (importF A t).1.2.2 ≤ t.length := by
  rw [importF_fin]
  have := fin_place (A := A) t.length ⟨t, 0, .head, A, [], [], [], g0⟩ (Nat.le_refl _)
  simpa using this
end Go.Proofs.YticfcjmlphhpgabGreatDoor
/-
  MATHEMATICS of Import, 5: where another entry stands.
-/
namespace Go.Proofs.YticfcjmlphhpgabGreatDoor
open Go.RowKit Go.Maps

/-- An entry up to its sum. -/
theorem finI_pre {A : List Ent} {e : Ent} {all : List Ent} {came added r0 : List ByteArray} {gz : Gr} (hp : isPathB e.path.data.toList = true) (hc : inL came e.path = false) (hw : firstW e.nodes = none) (hr : riseL e.refs = true) (hl : ∀ r ∈ e.refs, lackS all e.path r = false ∧ r.size ≤ 12) (rest : Bs) (pos : Nat) :
    ∃ (g : Gr) (n : Nat), g.nodes = e.nodes ∧ finI A ⟨entBs e.path (packB e.nodes) e.refs ++ rest, pos, .ent, all, came, added, r0, gz⟩ = finI A ⟨enc (sumG g).data.toList ++ rest, n, .sum, all, came ++ [e.path], added, e.refs, g⟩ := by
  have hps : e.path.size ≤ 12 := by
    unfold isPathB at hp
    simp only [Bool.and_eq_true, decide_eq_true_eq] at hp
    have : e.path.data.toList.length = e.path.size := by simp
    omega
  have hpk : (packB e.nodes).data.toList = packBytes e.nodes := by unfold packB; simp
  have hlast : lastS (came ++ [e.path]) = e.path := by simp [lastS, List.getD]
  obtain ⟨g, hg, ht⟩ := finI_pack (A := A) hw (bytesOf [wRefs] ++ (refsBs e.refs ++ (bytesOf [wSum, sumO (packB e.nodes)] ++ rest))) (pos + (enc wPath.data.toList).length + (enc e.path.data.toList).length) all (came ++ [e.path]) added []
  have e1 : entBs e.path (packB e.nodes) e.refs ++ rest = enc wPath.data.toList ++ (enc e.path.data.toList ++ (packBytes e.nodes ++ (bytesOf [wRefs] ++ (refsBs e.refs ++ (bytesOf [wSum, sumO (packB e.nodes)] ++ rest))))) := by
    unfold entBs
    rw [hpk, bytes2 wPath]
    simp only [List.append_assoc]
  have hsum : sumO (packB e.nodes) = sumG g := by unfold sumG; rw [hg]
  have h := e1
  refine ⟨g, ?n, hg, ?h⟩
  case h => rw [e1, fI_path, fI_name _ _ _ _ _ _ _ hp hc hps, ht, enc1, fI_refs, finI_refs e.refs [] _ _ (by simpa using hr) (by rw [hlast]; exact hl), List.nil_append, enc2, fI_sum, hsum]
theorem fI_other {A : List Ent} (l : Bs) (pos : Nat) (all : List Ent) (came added refs : List ByteArray) (g : Gr) {z : Ent} (hf : findS all (lastS came) = some z) (hne : packB z.nodes ≠ packB g.nodes) : finI A ⟨enc (sumG g).data.toList ++ l, pos, .sum, all, came, added, refs, g⟩ = (([], 12, pos), A) := by
  have hz : (sumG g).data.toList.length = 8 := by
    have h1 : (sumG g).size = 8 := sumO_size _
    have h2 : (sumG g).data.toList.length = (sumG g).size := by simp
    omega
  have hs : stepI ⟨enc (sumG g).data.toList ++ l, pos, .sum, all, came, added, refs, g⟩ = .fail 12 pos := by
    unfold stepI
    rw [if_neg (by simp [IS.ln])]
    have hc : cutF (enc (sumG g).data.toList ++ l) (IS.most ⟨enc (sumG g).data.toList ++ l, pos, .sum, all, came, added, refs, g⟩) = .ok (sumG g).data.toList l (enc (sumG g).data.toList).length := cut_enc _ _ _ (by rw [hz]; exact Nat.le_refl _) (by omega)
    rw [hc]
    simp only [takenI]
    rw [ba_eta, takeI_sum, if_pos rfl]
    have hput : putS all ⟨lastS came, g.nodes, refs⟩ = (12, all) := by
      unfold putS
      simp only [hf]
      rw [if_neg (by rw [decide_eq_false hne]; simp)]
    rw [hput, if_neg (show ¬ (12 : Int) = 0 by decide)]
  rw [finI_step, hs]
theorem len_less {P : ByteArray → Bool} {S : List Ent} {out : List ByteArray} (hR : Rising S) (h : HP.OrdSt P S out) {e0 : Ent} (he : e0 ∈ S) (hn : inL out e0.path = false) : out.length < S.length := by
  rw [← (Tof_find hR h).2, Tof_filter hR h]
  have : ¬ (S.filter fun e => inL out e.path).length = S.length := fun e => by
    have := List.length_filter_eq_length_iff.1 e e0 he
    rw [hn] at this
    cases this
  have := List.length_filter_le (fun e : Ent => inL out e.path) S
  omega
/-- The entries of an export, where another one stands. -/
theorem exp_has {P : ByteArray → Bool} {S : List Ent} {out : List ByteArray} (hS : OkR S) (h : HP.OrdSt P S out) (A : List Ent) {z e0 : Ent} (he0 : e0 ∈ S) (hp0 : e0.path = z.path) (hne : packB z.nodes ≠ packB e0.nodes) : ∀ (rest : Bs) (pos : Nat),
    (inL out z.path = true → ∃ p, finI A ⟨outBs S out ++ rest, pos, .ent, [z], [], [], [], g0⟩ = (([], 12, p), A)) ∧
    (inL out z.path = false → ∃ U n r g, (∀ q, findS U q = if inL out q = true then findS S q else findS [z] q) ∧ U.length = out.length + 1 ∧ finI A ⟨outBs S out ++ rest, pos, .ent, [z], [], [], [], g0⟩ = finI A ⟨rest, n, .ent, U, out, out, r, g⟩) := by
  have hR := hS.ok.ok.closed.rise
  induction h with
  | nil => exact fun rest pos => ⟨(fun h => by cases h), fun _ => ⟨[z], pos, [], g0, fun q => rfl, rfl, rfl⟩⟩
  | @snoc out e ho hn ih =>
    intro rest pos
    obtain ⟨he, hi, hrd⟩ := next_some hn
    have hfe := findS_eq hR he
    have heo : entOf S e.path = entBs e.path (packB e.nodes) e.refs := by unfold entOf; rw [hfe]
    have eo : outBs S (out ++ [e.path]) = outBs S out ++ entBs e.path (packB e.nodes) e.refs := by
      unfold outBs
      rw [List.flatMap_append]
      simp [heo]
    rw [eo, List.append_assoc]
    obtain ⟨i1, i2⟩ := ih (entBs e.path (packB e.nodes) e.refs ++ rest) pos
    cases hz : inL out z.path with
    | true =>
      refine ⟨fun _ => i1 hz, fun h => ?_⟩
      rw [HP.inL_app, hz] at h
      cases h
    | false =>
      obtain ⟨U, n, r, g, hU, hUl, hrun⟩ := i2 hz
      have hlk : ∀ r ∈ e.refs, lackS U e.path r = false ∧ r.size ≤ 12 := fun r hr => by
        obtain ⟨f, hf, hfr⟩ := hS.ok.ok.closed.ref e he r hr
        refine ⟨?_, by rw [← hfr]; exact hS.ok.path f hf⟩
        have h3 := List.all_eq_true.1 hrd r hr
        unfold lackS
        by_cases e1 : r = e.path
        · rw [decide_eq_true e1]; rfl
        · rw [decide_eq_false e1, Bool.false_or] at h3
          rw [decide_eq_false e1, hU, if_pos h3]
          simp only [Bool.not_false, Bool.true_and]
          exact findS_mem ⟨f, hf, hfr⟩
      have hw : firstW e.nodes = none := by rw [firstW_ref]; exact (hS.ok.ok.tree e he).1.right
      by_cases hez : e.path = z.path
      · have hee : e = e0 := by
          have h1 := findS_eq hR he0
          rw [hp0, ← hez, hfe] at h1
          injection h1
        refine ⟨fun _ => ?_, fun h => ?_⟩
        · obtain ⟨g2, n2, hg2, h2⟩ := finI_pre (A := A) (e := e) (all := U) (came := out) (added := out) (r0 := r) (gz := g) (hS.pa e he) hi hw (hS.ri e he) hlk rest n
          have hlast : lastS (out ++ [e.path]) = e.path := by simp [lastS, List.getD]
          have hfz : findS U (lastS (out ++ [e.path])) = some z := by
            rw [hlast, hU, if_neg (by rw [hi]; simp), hez]
            unfold findS
            simp
          exact ⟨_, by rw [hrun, h2, fI_other _ _ _ _ _ _ _ hfz (by rw [hg2, hee]; exact hne)]⟩
        · rw [HP.inL_app, hz, hez] at h
          simp at h
      · refine ⟨fun h => ?_, fun _ => ?_⟩
        · rw [HP.inL_app, hz, decide_eq_false (fun e => hez e.symm)] at h
          cases h
        · have hfn : findS U e.path = none := by
            rw [hU, if_neg (by rw [hi]; simp)]
            unfold findS
            have : (z.path.data.toList == e.path.data.toList) = false := beq_eq_false_iff_ne.2 fun e => hez (WideShapes.bytes_inj e).symm
            rw [List.find?_cons, this]
            rfl
          have hn2 : inL (out ++ [e.path]) e0.path = false := by
            rw [HP.inL_app, hp0, hz, decide_eq_false (fun e => hez e.symm)]
            rfl
          have hlen := len_less hR (HP.OrdSt.snoc ho hn) he0 hn2
          rw [List.length_append, List.length_singleton] at hlen
          have hfew := hS.ok.ok.closed.few
          obtain ⟨g2, h2⟩ := finI_ent (A := A) (e := e) (all := U) (came := out) (added := out) (r0 := r) (gz := g) (hS.pa e he) hi hw (hS.ri e he) hlk hfn (by omega) rest n
          refine ⟨insS e U, _, e.refs, g2, fun q => ?_, by rw [insS_len, hUl, List.length_append]; rfl, by rw [hrun, h2]⟩
          rw [findS_insS e q _ hfn, HP.inL_app, hU]
          by_cases hq : q = e.path
          · subst hq; simp [hfe]
          · rw [if_neg hq, decide_eq_false hq, Bool.or_false]
/-- AN ENTRY OF WHICH ANOTHER STANDS THERE. -/
theorem import_has {S : List Ent} {roots out : List ByteArray} (hS : OkR S) (hA : Acyc S) (hl : lackR S roots = false) (h : ClosR S roots out) {z e0 : Ent} (he0 : e0 ∈ S) (hp0 : e0.path = z.path) (hr : z.path ∈ roots) (hne : packB z.nodes ≠ packB e0.nodes) : ∃ p, importF [z] (exportB S roots out).data.toList = (([], 12, p), [z]) := by
  unfold ClosR at h
  rw [if_neg (by rw [hl]; simp)] at h
  have hfull := final_full hA hS.ok.ok.closed hl h z.path (.root hr)
  obtain ⟨p, h1⟩ := (exp_has hS h.1 [z] he0 hp0 hne (enc wEnd.data.toList ++ []) (0 + (enc wExp.data.toList).length)).1 hfull
  exact ⟨p, by rw [importF_fin, exp_bytes hl, fI_head, h1]⟩
/-- One tree, one row of bytes. -/
theorem packB_inj {a b : List Nd} (ha : firstW a = none) (hb : firstW b = none) (h : packB a = packB b) : a = b := by
  obtain ⟨a1, Za, a2⟩ := firstW_none ha
  obtain ⟨b1, Zb, b2⟩ := firstW_none hb
  have e : packBytes a = packBytes b := by
    have ea : (packB a).data.toList = packBytes a := by unfold packB; simp
    have eb : (packB b).data.toList = packBytes b := by unfold packB; simp
    rw [← ea, ← eb, h]
  have h1 := read_pack a Za a1 a2
  have h2 := read_pack b Zb b1 b2
  rw [e, h2] at h1
  injection h1 with h1 _
  exact h1.symm
end Go.Proofs.YticfcjmlphhpgabGreatDoor
/-
  What Spoilt needs.
-/
namespace Go.Proofs.YticfcjmlphhpgabGreatDoor
open Go.RowKit Go.Maps

def anD : ByteArray := ⟨#[97, 110, 111, 116, 104, 101, 114, 44, 32, 108, 111, 110, 103, 101, 114, 32, 116, 104, 97, 110, 32, 97, 108, 108, 32, 111, 102, 32, 116, 104, 101, 115, 101, 32, 97, 114, 101]⟩
def anN : List Nd := [⟨⟨#[]⟩, 1, anD⟩]
/-- The other entry. -/
def anE : Ent := ⟨nmK 0, anN, []⟩
theorem anN_run : runF 0 [] anN = some [] := by
  have hf : fits 1 anD.data.toList = true := by
    unfold fits; rw [if_neg (by decide), if_pos (.inl rfl)]
    exact decide_eq_true (by decide)
  unfold anN
  simp only [runF]
  have : stepW 0 [] ⟨⟨#[]⟩, 1, anD⟩ = some [] := by
    unfold stepW
    rw [if_pos ⟨by omega, hf⟩, if_pos rfl, if_pos (by rw [ByteArray.toList_eq]; rfl)]
    rfl
  rw [this]
theorem anN_first : firstW anN = none := firstW_run anN [] (by simp [anN]) anN_run
theorem anE_ins : insertF [] anE = (0, [anE]) := by
  unfold insertF
  rw [if_neg (by show ¬ isPathB (nmK 0).data.toList = false; rw [nmK_path]; simp), if_neg (by show ¬ (firstW anN).isSome = true; rw [anN_first]; simp), if_neg (by show ¬ riseL [] = false; simp [riseL]), if_neg (by show ¬ ([] : List ByteArray).any _ = true; simp)]
  rfl
theorem anE_ok : OkR [anE] := by
  have h := OkR.nil.insert anE
  rw [anE_ins] at h
  exact h
theorem anE_find : findS [anE] (nmK 0) = some anE := by
  unfold findS
  simp [anE]
def nms (n : Nat) : List ByteArray := (List.range n).map nmK
theorem nms_len (n : Nat) : (nms n).length = n := by simp [nms]
theorem nms_mem {n k : Nat} (h : k < n) : nmK k ∈ nms n := List.mem_map.2 ⟨k, List.mem_range.2 h, rfl⟩
/-- An export of all, spoilt. -/
structure SpP (S : List Ent) (n : Nat) (out : List ByteArray) : Prop where
  base : ClosR S (nms n) out
  big : 33 ≤ (exportB S (nms n) out).size
  size : (exportB S (nms n) out).size ≤ 500000
  short : ∀ k, k < (exportB S (nms n) out).size → importF [] ((exportB S (nms n) out).extract 0 k).data.toList = (([], 2, k), [])
  has : ∃ p, importF [anE] (exportB S (nms n) out).data.toList = (([], 12, p), [anE])
theorem StN.lackA {S : List Ent} {n : Nat} (h : StN S n) : lackR S (nms n) = false := by
  unfold lackR
  rw [List.any_eq_false]
  intro p hp
  obtain ⟨k, hk, rfl⟩ := List.mem_map.1 hp
  have h1 := h.has k (List.mem_range.1 hk)
  cases hf : findS S (nmK k) with
  | none => rw [hf] at h1; cases h1
  | some e => simp
theorem StN.sp {S : List Ent} {n : Nat} (h : StN S n) (hn : n ≤ 10) (h0 : 0 < n) {out : List ByteArray} (ho : ClosR S (nms n) out) : SpP S n out := by
  have hl := h.lackA
  have hlen := export_len h.ok.ok (h.acyc hn) hl (fun e he => by
    obtain ⟨k, hk, hp, _⟩ := h.path e he
    rw [hp]; exact nms_mem hk) ho
  have h1 := h.has 0 h0
  obtain ⟨e0, hf⟩ := Option.isSome_iff_exists.1 h1
  obtain ⟨he0, hp0⟩ := findS_some hf
  refine ⟨ho, ?_, export_small h.ok.ok _ _ ho, fun k hk => ?_, ?_⟩
  · rw [hlen]
    have : 0 < sumE S := by
      cases S with
      | nil => cases he0
      | cons x S' =>
        rw [sumE_cons]
        have : 0 < wE x := by
          unfold wE
          rw [entBs_length, len1, encW]
          have : 0 < wholeOf wRefs.size := by decide
          omega
        omega
    omega
  · have hi := import_export h.ok hl ho
    have hsp := extract_split (exportB S (nms n) out) k
    rw [hsp] at hi
    have hx : ((exportB S (nms n) out).extract 0 k).data.toList.length = k := by
      have : ((exportB S (nms n) out).extract 0 k).data.toList.length = ((exportB S (nms n) out).extract 0 k).size := by simp
      rw [this, ByteArray.size_extract]
      omega
    have hs := import_short (A := []) (t := ((exportB S (nms n) out).extract 0 k).data.toList) (fun e => ?_) hi
    · rw [hs, hx]
    · have h2 : ((exportB S (nms n) out).extract k (exportB S (nms n) out).size).size = 0 := by
        have h3 : ((exportB S (nms n) out).extract k (exportB S (nms n) out).size).data.toList.length = ((exportB S (nms n) out).extract k (exportB S (nms n) out).size).size := by simp
        rw [← h3, e]; rfl
      rw [ByteArray.size_extract] at h2
      omega
  · refine import_has h.ok (h.acyc hn) hl ho he0 hp0 (nms_mem h0) fun e => ?_
    have hw : firstW e0.nodes = none := by rw [firstW_ref]; exact (h.ok.ok.ok.tree e0 he0).1.right
    have h2 := packB_inj anN_first hw e
    have h3 := h.lone e0 he0 1 anD (by rw [← h2]; rfl) (by decide)
    exact absurd h3 (by decide)
/-- Import, whatever comes of it. -/
theorem imp_any {w0 w4 : World} {q b : Nat} {S T : List Ent} {vp : Value} {ps out : List ByteArray} {er : Int} {at' : Nat} (hb : w0.heap.size ≤ b) (hbq : q ≠ b) (hN : NStF (fun _ => True) w4 q b S) (hT : Lib.Utf8Tabs 0 1 w4) (hp : SliceS w4 vp ps) (hl : ps.length ≤ 1000000) (htot : (joinB ps).length ≤ 50000000) (hS : ∀ e ∈ S, e.refs.length ≤ 1000000000) (hS10 : S.length ≤ 10) (hi : importF S (joinB ps) = ((out, er, at'), T)) :
    Calls Tryz.prog 11 #[.pointer (some ⟨q, 0, none⟩), vp] w4 fun e w' => ∃ a c, e = .returned (.tuple #[.slice a out.length c, .int .i64 er, .int .i64 (at' : Nat)]) ∧ SliceS w' (.slice a out.length c) out ∧ NStF (fun _ => True) w' q b T ∧ Below w0.heap.size w4 w' := by
  have hc := narImport_any (fun _ => True) q b S vp ps w4 hN (fun _ _ => trivial) hT hp hl htot hS hS10
  rw [hi] at hc
  refine hc.mono ?_
  rintro e w' ⟨v, B, hB, rfl, ho, hP, hW⟩
  have h1 := own_strs ho
  obtain ⟨a, c, rfl, h2⟩ := h1
  exact ⟨a, c, rfl, ⟨a, c, rfl, h2⟩, ⟨(hW.1.blk q (lt_of_block hN.1) hbq).trans hN.1, hP.mono fun _ _ => trivial⟩, hW.2 _ hb⟩
end Go.Proofs.YticfcjmlphhpgabGreatDoor
