import Derived.Test.YticfcjmlphhpgabGreatDoorB24
import Derived.Test.YticfcjmlphhpgabGreatDoorB25
import Derived.Test.YticfcjmlphhpgabGreatDoorB28
namespace Go.Proofs.YticfcjmlphhpgabGreatDoor
open Go.RowKit

def refOk (st : IS) : Prop := riseL st.refs = true ∧ ∀ r ∈ st.refs, lackS st.all (lastS st.came) r = false
structure IOk (st : IS) : Prop where
  all : OkE st.all
  ref : live st.ph = true → refOk st
theorem lastS_size {l : List ByteArray} (h : ∀ p ∈ l, p.size ≤ 12) : (lastS l).size ≤ 12 := by
  unfold lastS
  rw [List.getD_eq_getElem?_getD]
  cases hg : l[l.length - 1]? with
  | none => exact Nat.zero_le _
  | some x => exact h x (List.mem_of_getElem? hg)
theorem IOk.step {st st' : IS} {tot : Nat} (h : IOk st) (hi : IInv st tot) (hs : stepI st = .go st') : IOk st' := by
  have htv := hi.tv
  have hcp := lastS_size hi.cp
  unfold stepI at hs
  split at hs
  · split at hs <;> cases hs
  · unfold takenI at hs
    split at hs
    · cases hs
    · cases hs
    · rename_i s rest n hcut
      split at hs
      · cases hs
      · rename_i st2 htk
        injection hs with hs
        subst hs
        obtain ⟨l, pos, ph, all, came, added, refs, g⟩ := st
        obtain ⟨ha, hr⟩ := h
        have fin : IOk st2 := by
          cases ph with
          | done => cases htk
          | head => simp only [takeI] at htk; split at htk <;> first | (cases htk; done) | (injection htk with htk; subst htk; exact ⟨ha, fun e => by cases e⟩)
          | ent =>
            simp only [takeI] at htk
            split at htk
            · injection htk with htk; subst htk; exact ⟨ha, fun e => by cases e⟩
            · split at htk <;> first | (cases htk; done) | (injection htk with htk; subst htk; exact ⟨ha, fun e => by cases e⟩)
          | path =>
            rw [takeI_path] at htk
            split at htk
            · cases htk
            · split at htk
              · cases htk
              · injection htk with htk; subst htk; exact ⟨ha, fun _ => ⟨rfl, fun r hm => by cases hm⟩⟩
          | refs =>
            simp only [takeI] at htk
            split at htk
            · injection htk with htk; subst htk; exact ⟨ha, fun _ => hr rfl⟩
            · split at htk
              · injection htk with htk; subst htk; exact ⟨ha, fun _ => hr rfl⟩
              · cases htk
          | ref =>
            rw [takeI_ref] at htk
            split at htk
            · cases htk
            · rename_i h1
              split at htk
              · cases htk
              · rename_i h2
                injection htk with htk
                subst htk
                refine ⟨ha, fun _ => ⟨eq_true_of_ne_false h1, fun r hm => ?_⟩⟩
                rcases List.mem_append.1 hm with hm | hm
                · exact (hr rfl).2 r hm
                · rw [List.mem_singleton] at hm
                  subst hm
                  exact Bool.eq_false_iff.2 h2
          | sum =>
            rw [takeI_sum] at htk
            split at htk
            · split at htk
              · injection htk with htk
                subst htk
                exact ⟨ha.put hcp htv (hr rfl).1 (hr rfl).2, fun e => by cases e⟩
              · cases htk
            · cases htk
          | tree K =>
            cases K with
            | nil => simp only [takeI] at htk; split at htk <;> first | (cases htk; done) | (injection htk with htk; subst htk; exact ⟨ha, fun _ => hr rfl⟩)
            | cons i K => simp only [takeI] at htk; split at htk <;> first | (cases htk; done) | (injection htk with htk; subst htk; exact ⟨ha, fun _ => hr rfl⟩)
        exact ⟨fin.all, fin.ref⟩
theorem runI_ok : ∀ (f : Nat) (st : IS) (tot : Nat), tot ≤ 1000000000 → IInv st tot → IOk st → ∀ st', runG stepI f st = .ok st' → OkE st'.all
  | 0, st, _, _, _, h, st', e => by
    simp only [runG] at e
    injection e with e
    subst e
    exact h.all
  | f + 1, st, tot, ht, hi, h, st', e => by
    simp only [runG] at e
    cases hs : stepI st with
    | stop => rw [hs] at e; injection e with e; subst e; exact h.all
    | fail e2 p => rw [hs] at e; cases e
    | go st2 => rw [hs] at e; exact runI_ok f st2 tot ht (hi.step ht hs) (h.step hi hs) st' e
theorem OkE.import {S : List Ent} (h : OkE S) (s : Bs) (hs : s.length ≤ 1000000000) : OkE (importF S s).2 := by
  unfold importF
  cases hr : feedI (is0 S) s with
  | bad e p => exact h
  | ok st =>
    unfold impEnd
    simp only
    split
    · have h0 := (is0_inv (S := S) (fun e he => by have := h.few e he; omega) h.ok.closed.few).1
      have h1 := IInv.add h0 s
      exact runI_ok _ _ _ (by omega) h1 ⟨h, fun e => by cases e⟩ st hr
    · exact h
end Go.Proofs.YticfcjmlphhpgabGreatDoor
/-
  SMALL FACTS of stores.
-/
namespace Go.Proofs.YticfcjmlphhpgabGreatDoor
open Go.RowKit Go.Maps

theorem findS_mem {S : List Ent} {p : ByteArray} (h : ∃ e ∈ S, e.path = p) : (findS S p).isNone = false := by
  obtain ⟨e, he, rfl⟩ := h
  unfold findS
  cases hf : S.find? fun x => x.path.data.toList == e.path.data.toList with
  | none => exact absurd (List.find?_eq_none.1 hf e he) (by simp)
  | some x => rfl
theorem findS_eq {S : List Ent} (hR : Rising S) {e : Ent} (he : e ∈ S) : findS S e.path = some e := by
  cases hf : findS S e.path with
  | none =>
    have := findS_mem ⟨e, he, rfl⟩
    rw [hf] at this; cases this
  | some e' =>
    obtain ⟨h1, h2⟩ := findS_some hf
    rw [HP.rise_uniq hR h1 he h2]
theorem OkS.nil : OkS [] := ⟨⟨fun e he => (by cases he), by simp, fun e he => (by cases he), fun e he => (by cases he), List.Pairwise.nil⟩, fun e he => (by cases he), fun e he => (by cases he)⟩
theorem OkE.nil : OkE [] := ⟨OkS.nil, (fun e he => by cases he), fun e he => by cases he⟩
namespace HP
theorem OrdSt.mem {P : ByteArray → Bool} {S : List Ent} {out : List ByteArray} (h : OrdSt P S out) : ∀ p ∈ out, P p = true ∧ ∃ e ∈ S, e.path = p := by
  induction h with
  | nil => intro p hp; cases hp
  | snoc _ hn ih =>
    intro p hp
    rcases List.mem_append.1 hp with hp | hp
    · exact ih p hp
    · obtain ⟨h1, h2⟩ := next_mem hn
      rw [List.mem_singleton] at hp
      subst hp
      unfold condB at h2
      simp only [Bool.and_eq_true] at h2
      exact ⟨h2.1.1, _, h1, rfl⟩
end HP
end Go.Proofs.YticfcjmlphhpgabGreatDoor
/-
  MATHEMATICS of Export and Import: what is exported is imported.
-/
namespace Go.Proofs.YticfcjmlphhpgabGreatDoor
open Go.RowKit Go.Maps

/-- What Import tells, from where it stands. -/
def finI (A : List Ent) (m : IS) : (List ByteArray × Int × Nat) × List Ent := impEnd A (runG stepI m.left.length m)
theorem finI_step (A : List Ent) (m : IS) : finI A m = match stepI m with
    | .go m' => finI A m'
    | .stop => impEnd A (.ok m)
    | .fail e p => (([], e, p), A) := by
  unfold finI
  cases hs : stepI m with
  | stop => cases m.left.length <;> simp only [runG, hs]
  | fail e p =>
    have := (stepI_fail hs).1
    cases hl : m.left.length with
    | zero => omega
    | succ k => simp only [runG, hs]; rfl
  | go m' =>
    have := stepI_go hs
    cases hl : m.left.length with
    | zero => omega
    | succ k =>
      simp only [runG, hs]
      rw [runG_fuel impML k m'.left.length m' (by omega) (Nat.le_refl _)]
theorem finI_tree (A : List Ent) : ∀ (f : Nat) (K : List It) (l : Bs) (pos : Nat) (g : Gr) (all : List Ent) (came added refs : List ByteArray), l.length ≤ f → finI A ⟨l, pos, .tree K, all, came, added, refs, g⟩ = match exec f K ⟨l, pos, g⟩ with
    | .no e p => (([], e, p), A)
    | .yes z => finI A ⟨z.left, z.pos, .tree [], all, came, added, refs, z.gr⟩
  | f, [], l, pos, g, all, came, added, refs, h => by cases f <;> rfl
  | 0, i :: K, l, pos, g, all, came, added, refs, h => by
    have h0 : l = [] := List.eq_nil_of_length_eq_zero (by omega)
    subst h0
    rw [finI_step]
    have hs : stepI ⟨[], pos, .tree (i :: K), all, came, added, refs, g⟩ = .stop := by
      unfold stepI
      rw [if_neg (by simp [IS.ln])]
      simp [cutF, takenI]
    rw [hs]
    simp [exec, impEnd, IS.ln]
  | f + 1, i :: K, l, pos, g, all, came, added, refs, h => by
    rw [finI_step]
    have hln : ¬ IS.ln ⟨l, pos, .tree (i :: K), all, came, added, refs, g⟩ = 0 := by simp [IS.ln]
    have hm : IS.most ⟨l, pos, .tree (i :: K), all, came, added, refs, g⟩ = i.most := rfl
    simp only [stepI, if_neg hln, hm, exec, one]
    cases hc : cutF l i.most with
    | wait => simp only [takenI, impEnd, if_neg hln, Ex.then]
    | bad e => simp only [takenI, Ex.then]
    | ok s rest n =>
      have hl := cutF_len hc
      simp only [takenI, takeI]
      cases hF : takeF g i ⟨s.toArray⟩ with
      | err e => simp only [Ex.then]
      | more g' push =>
        simp only [Ex.then]
        exact finI_tree A f (push ++ K) rest (pos + n) g' all came added refs (by omega)
/-- A string that is taken. -/
theorem finI_take {A : List Ent} {m m' : IS} (s : ByteArray) (l : Bs) (hln : m.ln ≠ 0) (hl : m.left = enc s.data.toList ++ l) (hs : s.size ≤ m.most) (hm : m.most ≤ 1000) (ht : takeI m s = .more m') : finI A m = finI A { m' with left := l, pos := m.pos + (enc s.data.toList).length } := by
  have hsz : s.data.toList.length = s.size := by simp
  rw [finI_step]
  unfold stepI
  rw [if_neg hln, hl, cut_enc s.data.toList l m.most (by omega) (by omega)]
  simp only [takenI]
  rw [ba_eta, ht]
theorem firstW_none {ns : List Nd} (h : firstW ns = none) : ns ≠ [] ∧ ∃ Z, runF 0 [] ns = some Z := by
  unfold firstW at h
  split at h
  · cases h
  · rename_i hne
    exact ⟨hne, fwGo_none _ _ _ h⟩
theorem finI_pack {A : List Ent} {ns : List Nd} (hw : firstW ns = none) (rest : Bs) (pos : Nat) (all : List Ent) (came added refs : List ByteArray) : ∃ g : Gr, g.nodes = ns ∧ finI A ⟨packBytes ns ++ rest, pos, .tree [.word wNar, .bracket], all, came, added, refs, g0⟩ = finI A ⟨rest, pos + (packBytes ns).length, .tree [], all, came, added, refs, g⟩ := by
  obtain ⟨hne, Z, hZ⟩ := firstW_none hw
  obtain ⟨g, hg, hr⟩ := pack_reads ns Z hne hZ
  refine ⟨g, hg, ?_⟩
  rw [finI_tree A _ _ _ _ _ _ _ _ _ (Nat.le_refl _)]
  have h2 : exec (packBytes ns ++ rest).length [.word wNar, .bracket] ⟨packBytes ns ++ rest, pos, g0⟩ = .yes ⟨rest, pos + (packBytes ns).length, g⟩ := hr rest pos
  rw [h2]
theorem riseL_pre {l r : List ByteArray} (h : riseL (l ++ r) = true) : riseL l = true := by
  refine riseL_yes fun k hk => ?_
  have h1 : k + 1 < (l ++ r).length := by rw [List.length_append]; omega
  cases hn : notAbove (l[k + 1]'hk) (l[k]'(by omega)) with
  | false => rfl
  | true =>
    rw [riseL_no k h1 (by rw [List.getElem_append_left hk, List.getElem_append_left (by omega)]; exact hn)] at h
    cases h
theorem enc2 (a b : ByteArray) (l : Bs) : bytesOf [a, b] ++ l = enc a.data.toList ++ (enc b.data.toList ++ l) := by rw [bytes2, List.append_assoc]
theorem enc1 (a : ByteArray) (l : Bs) : bytesOf [a] ++ l = enc a.data.toList ++ l := by rw [bytes1]
theorem len2 (a b : ByteArray) : (bytesOf [a, b]).length = (enc a.data.toList).length + (enc b.data.toList).length := by rw [bytes2, List.length_append]
theorem len1 (a : ByteArray) : (bytesOf [a]).length = (enc a.data.toList).length := by rw [bytes1]
section
variable {A : List Ent} (l : Bs) (pos : Nat) (all : List Ent) (came added refs : List ByteArray) (g : Gr)
theorem fI_head : finI A ⟨enc wExp.data.toList ++ l, pos, .head, all, came, added, refs, g⟩ = finI A ⟨l, pos + (enc wExp.data.toList).length, .ent, all, came, added, refs, g⟩ :=
  finI_take (m' := ⟨enc wExp.data.toList ++ l, pos, .ent, all, came, added, refs, g⟩) wExp l (by simp [IS.ln]) rfl (show wExp.size ≤ 8 by decide) (show 8 ≤ 1000 by decide) rfl
theorem fI_path : finI A ⟨enc wPath.data.toList ++ l, pos, .ent, all, came, added, refs, g⟩ = finI A ⟨l, pos + (enc wPath.data.toList).length, .path, all, came, added, refs, g⟩ :=
  finI_take (m' := ⟨enc wPath.data.toList ++ l, pos, .path, all, came, added, refs, g⟩) wPath l (by simp [IS.ln]) rfl (show wPath.size ≤ 8 by decide) (show 8 ≤ 1000 by decide) rfl
theorem fI_name {p : ByteArray} (hp : isPathB p.data.toList = true) (hc : inL came p = false) (hs : p.size ≤ 12) : finI A ⟨enc p.data.toList ++ l, pos, .path, all, came, added, refs, g⟩ = finI A ⟨l, pos + (enc p.data.toList).length, .tree [.word wNar, .bracket], all, came ++ [p], added, [], g0⟩ :=
  finI_take (m' := ⟨enc p.data.toList ++ l, pos, .tree [.word wNar, .bracket], all, came ++ [p], added, [], g0⟩) p l (by simp [IS.ln]) rfl (show p.size ≤ 12 from hs) (show 12 ≤ 1000 by decide) (by rw [takeI_path, if_neg (by rw [hp]; simp), if_neg (by rw [hc]; simp)])
theorem fI_refs : finI A ⟨enc wRefs.data.toList ++ l, pos, .tree [], all, came, added, refs, g⟩ = finI A ⟨l, pos + (enc wRefs.data.toList).length, .refs, all, came, added, refs, g⟩ :=
  finI_take (m' := ⟨enc wRefs.data.toList ++ l, pos, .refs, all, came, added, refs, g⟩) wRefs l (by simp [IS.ln]) rfl (show wRefs.size ≤ 8 by decide) (show 8 ≤ 1000 by decide) rfl
theorem fI_ref : finI A ⟨enc wRef.data.toList ++ l, pos, .refs, all, came, added, refs, g⟩ = finI A ⟨l, pos + (enc wRef.data.toList).length, .ref, all, came, added, refs, g⟩ :=
  finI_take (m' := ⟨enc wRef.data.toList ++ l, pos, .ref, all, came, added, refs, g⟩) wRef l (by simp [IS.ln]) rfl (show wRef.size ≤ 8 by decide) (show 8 ≤ 1000 by decide) rfl
theorem fI_one {r : ByteArray} (hr : riseL (refs ++ [r]) = true) (hl : lackS all (lastS came) r = false) (hs : r.size ≤ 12) : finI A ⟨enc r.data.toList ++ l, pos, .ref, all, came, added, refs, g⟩ = finI A ⟨l, pos + (enc r.data.toList).length, .refs, all, came, added, refs ++ [r], g⟩ :=
  finI_take (m' := ⟨enc r.data.toList ++ l, pos, .refs, all, came, added, refs ++ [r], g⟩) r l (by simp [IS.ln]) rfl (show r.size ≤ 12 from hs) (show 12 ≤ 1000 by decide) (by rw [takeI_ref, if_neg (by rw [hr]; simp), if_neg (by rw [hl]; simp)])
theorem fI_sum : finI A ⟨enc wSum.data.toList ++ l, pos, .refs, all, came, added, refs, g⟩ = finI A ⟨l, pos + (enc wSum.data.toList).length, .sum, all, came, added, refs, g⟩ :=
  finI_take (m' := ⟨enc wSum.data.toList ++ l, pos, .sum, all, came, added, refs, g⟩) wSum l (by simp [IS.ln]) rfl (show wSum.size ≤ 8 by decide) (show 8 ≤ 1000 by decide) rfl
theorem fI_end : finI A ⟨enc wEnd.data.toList ++ l, pos, .ent, all, came, added, refs, g⟩ = finI A ⟨l, pos + (enc wEnd.data.toList).length, .done, all, came, added, refs, g⟩ :=
  finI_take (m' := ⟨enc wEnd.data.toList ++ l, pos, .done, all, came, added, refs, g⟩) wEnd l (by simp [IS.ln]) rfl (show wEnd.size ≤ 8 by decide) (show 8 ≤ 1000 by decide) rfl
theorem fI_done : finI A ⟨[], pos, .done, all, came, added, refs, g⟩ = ((added, 0, 0), all) := rfl
theorem fI_put {p : ByteArray} (hl : lastS came = p) (hf : findS all p = none) (h10 : all.length < 10) : finI A ⟨enc (sumG g).data.toList ++ l, pos, .sum, all, came, added, refs, g⟩ = finI A ⟨l, pos + (enc (sumG g).data.toList).length, .ent, insS ⟨p, g.nodes, refs⟩ all, came, added ++ [p], refs, g⟩ := by
  refine finI_take (m' := ⟨enc (sumG g).data.toList ++ l, pos, .ent, insS ⟨p, g.nodes, refs⟩ all, came, added ++ [p], refs, g⟩) (sumG g) l (by simp [IS.ln]) rfl (show (sumG g).size ≤ 8 from Nat.le_of_eq (sumO_size _)) (show 8 ≤ 1000 by decide) ?_
  have hput : putS all ⟨p, g.nodes, refs⟩ = (0, insS ⟨p, g.nodes, refs⟩ all) := by
    unfold putS
    simp only [hf]
    rw [if_neg (by omega)]
  rw [takeI_sum, if_pos rfl, hl, hput, if_pos rfl, hf]
  rfl
end
/-- The references of an entry. -/
theorem finI_refs {A : List Ent} {all : List Ent} {came added : List ByteArray} {g : Gr} : ∀ (rs done : List ByteArray) (rest : Bs) (pos : Nat), riseL (done ++ rs) = true → (∀ r ∈ rs, lackS all (lastS came) r = false ∧ r.size ≤ 12) →
    finI A ⟨refsBs rs ++ rest, pos, .refs, all, came, added, done, g⟩ = finI A ⟨rest, pos + (refsBs rs).length, .refs, all, came, added, done ++ rs, g⟩
  | [], done, rest, pos, _, _ => by simp [refsBs]
  | r :: rs, done, rest, pos, hr, hl => by
    have e : refsBs (r :: rs) = bytesOf [wRef, r] ++ refsBs rs := by simp [refsBs]
    have h1 := hl r List.mem_cons_self
    have hr1 : riseL (done ++ [r]) = true := riseL_pre (r := rs) (by rw [List.append_assoc]; exact hr)
    rw [e, List.append_assoc, enc2, fI_ref, fI_one _ _ _ _ _ _ _ hr1 h1.1 h1.2]
    rw [finI_refs rs (done ++ [r]) rest _ (by rw [List.append_assoc]; exact hr) (fun x hx => hl x (List.mem_cons_of_mem _ hx))]
    rw [List.length_append, len2, List.append_assoc]
    simp only [List.singleton_append, Nat.add_assoc]
/-- An entry. -/
theorem finI_ent {A : List Ent} {e : Ent} {all : List Ent} {came added r0 : List ByteArray} {gz : Gr} (hp : isPathB e.path.data.toList = true) (hc : inL came e.path = false) (hw : firstW e.nodes = none) (hr : riseL e.refs = true) (hl : ∀ r ∈ e.refs, lackS all e.path r = false ∧ r.size ≤ 12) (hf : findS all e.path = none) (h10 : all.length < 10) (rest : Bs) (pos : Nat) :
    ∃ g : Gr, finI A ⟨entBs e.path (packB e.nodes) e.refs ++ rest, pos, .ent, all, came, added, r0, gz⟩ = finI A ⟨rest, pos + (entBs e.path (packB e.nodes) e.refs).length, .ent, insS e all, came ++ [e.path], added ++ [e.path], e.refs, g⟩ := by
  have hps : e.path.size ≤ 12 := by
    unfold isPathB at hp
    simp only [Bool.and_eq_true, decide_eq_true_eq] at hp
    have : e.path.data.toList.length = e.path.size := by simp
    omega
  have hpk : (packB e.nodes).data.toList = packBytes e.nodes := by unfold packB; simp
  have hlast : lastS (came ++ [e.path]) = e.path := by simp [lastS, List.getD]
  obtain ⟨g, hg, ht⟩ := finI_pack (A := A) hw (bytesOf [wRefs] ++ (refsBs e.refs ++ (bytesOf [wSum, sumO (packB e.nodes)] ++ rest))) (pos + (enc wPath.data.toList).length + (enc e.path.data.toList).length) all (came ++ [e.path]) added []
  refine ⟨g, ?_⟩
  have e1 : entBs e.path (packB e.nodes) e.refs ++ rest = enc wPath.data.toList ++ (enc e.path.data.toList ++ (packBytes e.nodes ++ (bytesOf [wRefs] ++ (refsBs e.refs ++ (bytesOf [wSum, sumO (packB e.nodes)] ++ rest))))) := by
    unfold entBs
    rw [hpk, bytes2 wPath]
    simp only [List.append_assoc]
  have hsum : sumO (packB e.nodes) = sumG g := by unfold sumG; rw [hg]
  have ex : (⟨e.path, g.nodes, e.refs⟩ : Ent) = e := by rw [hg]
  have hlen : (packB e.nodes).size = (packBytes e.nodes).length := by unfold packB; simp [ByteArray.size]
  rw [e1, fI_path, fI_name _ _ _ _ _ _ _ hp hc hps, ht, enc1, fI_refs, finI_refs e.refs [] _ _ (by simpa using hr) (by rw [hlast]; exact hl), List.nil_append, enc2, fI_sum, hsum, fI_put _ _ _ _ _ _ _ hlast hf h10, ex]
  congr 1
  simp only [IS.mk.injEq, true_and, and_true]
  rw [entBs_length, len2, len1, len2, hsum, hlen]
  omega
/-- A store whose entries Insert has taken. -/
structure OkR (S : List Ent) : Prop where
  ok : OkE S
  pa : ∀ e ∈ S, isPathB e.path.data.toList = true
  ri : ∀ e ∈ S, riseL e.refs = true
theorem OkR.nil : OkR [] := ⟨OkE.nil, (fun e he => by cases he), fun e he => by cases he⟩
theorem OkR.insert {S : List Ent} (h : OkR S) (x : Ent) : OkR (insertF S x).2 := by
  refine ⟨h.ok.insert x, ?_, ?_⟩
  all_goals
    unfold insertF
    split
    · first | exact h.pa | exact h.ri
    · rename_i hp
      split
      · first | exact h.pa | exact h.ri
      · split
        · first | exact h.pa | exact h.ri
        · rename_i hr
          split
          · first | exact h.pa | exact h.ri
          · intro e he
            unfold putS at he
            cases hf : findS S x.path with
            | some y => rw [hf] at he; first | exact h.pa e he | exact h.ri e he
            | none =>
              rw [hf] at he
              simp only at he
              split at he
              · first | exact h.pa e he | exact h.ri e he
              · rcases insS_mem he with rfl | he
                · first | exact eq_true_of_ne_false hp | exact eq_true_of_ne_false hr
                · first | exact h.pa e he | exact h.ri e he
theorem findS_insS (x : Ent) (r : ByteArray) : ∀ T : List Ent, findS T x.path = none → findS (insS x T) r = if r = x.path then some x else findS T r
  | [], _ => by
    unfold findS insS
    by_cases h : r = x.path
    · subst h; simp
    · rw [if_neg h, List.find?_cons]
      have : (x.path.data.toList == r.data.toList) = false := beq_eq_false_iff_ne.2 fun e => h (WideShapes.bytes_inj e).symm
      rw [this]
  | z :: T, hf => by
    have e2 : insS x (z :: T) = if bytesBefore x.path.data.toList z.path.data.toList = true then x :: z :: T else z :: insS x T := rfl
    have hz : (z.path.data.toList == x.path.data.toList) = false := by
      cases hb : z.path.data.toList == x.path.data.toList with
      | false => rfl
      | true => unfold findS at hf; rw [List.find?_cons, hb] at hf; cases hf
    have hf' : findS T x.path = none := by unfold findS at hf ⊢; rw [List.find?_cons, hz] at hf; exact hf
    rw [e2]
    by_cases h : r = x.path
    · subst h
      rw [if_pos rfl]
      split
      · unfold findS; simp
      · have ih := findS_insS x x.path T hf'
        rw [if_pos rfl] at ih
        unfold findS at ih ⊢
        rw [List.find?_cons, hz]
        exact ih
    · have hx : (x.path.data.toList == r.data.toList) = false := beq_eq_false_iff_ne.2 fun e => h (WideShapes.bytes_inj e).symm
      rw [if_neg h]
      split
      · unfold findS; rw [List.find?_cons, hx]
      · have ih := findS_insS x r T hf'
        rw [if_neg h] at ih
        unfold findS at ih ⊢
        rw [List.find?_cons, List.find?_cons, ih]
/-- What some paths name, as a store. -/
def Tof (S : List Ent) (out : List ByteArray) : List Ent := out.foldl (fun T p => match findS S p with | some e => insS e T | none => T) []
theorem Tof_snoc {S : List Ent} {out : List ByteArray} {e : Ent} (h : findS S e.path = some e) : Tof S (out ++ [e.path]) = insS e (Tof S out) := by
  unfold Tof
  rw [List.foldl_append]
  simp only [List.foldl_cons, List.foldl_nil, h]
theorem next_some {P : ByteArray → Bool} {S : List Ent} {out : List ByteArray} {e : Ent} (h : HP.nextF P S out = some e) : e ∈ S ∧ inL out e.path = false ∧ HP.readyB out e = true := by
  unfold HP.nextF at h
  have h1 := List.find?_some h
  unfold HP.condB at h1
  simp only [Bool.and_eq_true, Bool.not_eq_true'] at h1
  exact ⟨List.mem_of_find?_eq_some h, h1.1.2, h1.2⟩
theorem Tof_find {P : ByteArray → Bool} {S : List Ent} {out : List ByteArray} (hR : Rising S) (h : HP.OrdSt P S out) : (∀ r, findS (Tof S out) r = if inL out r = true then findS S r else none) ∧ (Tof S out).length = out.length := by
  induction h with
  | nil => exact ⟨fun r => rfl, rfl⟩
  | @snoc out e _ hn ih =>
    obtain ⟨he, hi, _⟩ := next_some hn
    have hfe := findS_eq hR he
    have hno : findS (Tof S out) e.path = none := by rw [ih.1, if_neg (by rw [hi]; simp)]
    rw [Tof_snoc hfe]
    refine ⟨fun r => ?_, by rw [insS_len, ih.2, List.length_append]; rfl⟩
    rw [findS_insS e r _ hno, HP.inL_app, ih.1]
    by_cases hr : r = e.path
    · subst hr; simp [hfe]
    · rw [if_neg hr, decide_eq_false hr, Bool.or_false]
/-- The entries of an export. -/
theorem exp_run {P : ByteArray → Bool} {S : List Ent} {out : List ByteArray} (hS : OkR S) (h : HP.OrdSt P S out) (A : List Ent) : ∀ (rest : Bs) (pos : Nat), ∃ r g, finI A ⟨outBs S out ++ rest, pos, .ent, [], [], [], [], g0⟩ = finI A ⟨rest, pos + (outBs S out).length, .ent, Tof S out, out, out, r, g⟩ := by
  induction h with
  | nil => exact fun rest pos => ⟨[], g0, rfl⟩
  | @snoc out e ho hn ih =>
    intro rest pos
    obtain ⟨he, hi, hrd⟩ := next_some hn
    have hR := hS.ok.ok.closed.rise
    have hfe := findS_eq hR he
    have hT := Tof_find hR ho
    have heo : entOf S e.path = entBs e.path (packB e.nodes) e.refs := by unfold entOf; rw [hfe]
    have eo : outBs S (out ++ [e.path]) = outBs S out ++ entBs e.path (packB e.nodes) e.refs := by
      unfold outBs
      rw [List.flatMap_append]
      simp [heo]
    have hlen := (HP.OrdSt.snoc ho hn).len
    rw [List.length_append, List.length_singleton] at hlen
    have hfew := hS.ok.ok.closed.few
    obtain ⟨r1, g1, h1⟩ := ih (entBs e.path (packB e.nodes) e.refs ++ rest) pos
    have hlk : ∀ r ∈ e.refs, lackS (Tof S out) e.path r = false ∧ r.size ≤ 12 := fun r hr => by
      obtain ⟨f, hf, hfr⟩ := hS.ok.ok.closed.ref e he r hr
      refine ⟨?_, by rw [← hfr]; exact hS.ok.path f hf⟩
      have h3 := List.all_eq_true.1 hrd r hr
      unfold lackS
      by_cases e1 : r = e.path
      · rw [decide_eq_true e1]; rfl
      · rw [decide_eq_false e1, Bool.false_or] at h3
        rw [decide_eq_false e1, hT.1, if_pos h3]
        simp only [Bool.not_false, Bool.true_and]
        exact findS_mem ⟨f, hf, hfr⟩
    obtain ⟨g2, h2⟩ := finI_ent (A := A) (e := e) (all := Tof S out) (came := out) (added := out) (r0 := r1) (gz := g1) (hS.pa e he) hi (by rw [firstW_ref]; exact (hS.ok.ok.tree e he).1.right) (hS.ri e he) hlk (by rw [hT.1, if_neg (by rw [hi]; simp)]) (by rw [hT.2]; omega) rest (pos + (outBs S out).length)
    refine ⟨e.refs, g2, ?_⟩
    rw [eo, List.append_assoc, h1, h2, Tof_snoc hfe, List.length_append]
    simp only [Nat.add_assoc]
theorem importF_fin (A : List Ent) (s : Bs) : importF A s = finI A ⟨s, 0, .head, A, [], [], [], g0⟩ := by
  unfold importF finI is0
  show impEnd A (runG stepI ((⟨[], 0, .head, A, [], [], [], g0⟩ : IS).left.length + s.length) _) = _
  rw [show (⟨[], 0, .head, A, [], [], [], g0⟩ : IS).left.length + s.length = s.length by simp]
  rfl
/-- WHAT IS EXPORTED IS IMPORTED. -/
theorem import_export {S : List Ent} {roots out : List ByteArray} (hS : OkR S) (hl : lackR S roots = false) (h : ClosR S roots out) : importF [] (exportB S roots out).data.toList = ((out, 0, 0), Tof S out) := by
  unfold ClosR at h
  rw [if_neg (by rw [hl]; simp)] at h
  have e1 : (exportB S roots out).data.toList = enc wExp.data.toList ++ (outBs S out ++ (enc wEnd.data.toList ++ [])) := by
    unfold exportB
    rw [if_neg (by rw [hl]; simp)]
    show (expBs S out).toArray.toList = _
    unfold expBs
    simp [bytes1, List.append_assoc]
  obtain ⟨r, g, h1⟩ := exp_run hS h.1 [] (enc wEnd.data.toList ++ []) (0 + (enc wExp.data.toList).length)
  rw [importF_fin, e1, fI_head, h1, fI_end, fI_done]
end Go.Proofs.YticfcjmlphhpgabGreatDoor
/-
  MATHEMATICS of Export and Import, 2: what was imported, as a store; the same bytes once more.
-/
namespace Go.Proofs.YticfcjmlphhpgabGreatDoor
open Go.RowKit Go.Maps

theorem rise_ext : ∀ {A B : List Ent}, Rising A → Rising B → (∀ e, e ∈ A ↔ e ∈ B) → A = B
  | [], [], _, _, _ => rfl
  | [], b :: B, _, _, h => absurd ((h b).2 List.mem_cons_self) (by simp)
  | a :: A, [], _, _, h => absurd ((h a).1 List.mem_cons_self) (by simp)
  | a :: A, b :: B, hA, hB, h => by
    have hA' := List.pairwise_cons.1 hA
    have hB' := List.pairwise_cons.1 hB
    have hab : a = b := by
      rcases List.mem_cons.1 ((h a).1 List.mem_cons_self) with e | ha
      · exact e
      · rcases List.mem_cons.1 ((h b).2 List.mem_cons_self) with e | hb
        · exact e.symm
        · have h1 := hA'.1 b hb
          have h2 := hB'.1 a ha
          rw [bl_asym _ _ h1] at h2
          cases h2
    subst hab
    have ht : ∀ e, e ∈ A ↔ e ∈ B := fun e => by
      constructor
      · intro he
        rcases List.mem_cons.1 ((h e).1 (List.mem_cons_of_mem _ he)) with e1 | h1
        · subst e1
          have := hA'.1 e he
          rw [bl_irr] at this
          cases this
        · exact h1
      · intro he
        rcases List.mem_cons.1 ((h e).2 (List.mem_cons_of_mem _ he)) with e1 | h1
        · subst e1
          have := hB'.1 e he
          rw [bl_irr] at this
          cases this
        · exact h1
    rw [rise_ext hA'.2 hB'.2 ht]
section
variable {P : ByteArray → Bool} {S : List Ent} {out : List ByteArray}
theorem Tof_rise (hR : Rising S) (h : HP.OrdSt P S out) : Rising (Tof S out) := by
  induction h with
  | nil => exact List.Pairwise.nil
  | @snoc out e ho hn ih =>
    obtain ⟨he, hi, _⟩ := next_some hn
    rw [Tof_snoc (findS_eq hR he)]
    exact Rising.ins ih (by rw [(Tof_find hR ho).1, if_neg (by rw [hi]; simp)])
theorem Tof_mem (hR : Rising S) (h : HP.OrdSt P S out) (e : Ent) : e ∈ Tof S out ↔ e ∈ S ∧ inL out e.path = true := by
  have hT := (Tof_find hR h).1 e.path
  constructor
  · intro he
    rw [findS_eq (Tof_rise hR h) he] at hT
    split at hT
    · rename_i hi
      exact ⟨(findS_some hT.symm).1, hi⟩
    · cases hT
  · intro he
    rw [if_pos he.2, findS_eq hR he.1] at hT
    exact (findS_some hT).1
theorem Tof_filter (hR : Rising S) (h : HP.OrdSt P S out) : Tof S out = S.filter fun e => inL out e.path :=
  rise_ext (Tof_rise hR h) (List.Pairwise.filter _ hR) fun e => by rw [Tof_mem hR h, List.mem_filter]
theorem Tof_ok (hS : OkR S) (h : HP.OrdSt P S out) : OkR (Tof S out) := by
  have hR := hS.ok.ok.closed.rise
  have hm := fun e => (Tof_mem hR h e)
  have hl := (Tof_find hR h).2
  have hlen := h.len
  have hfew := hS.ok.ok.closed.few
  refine ⟨⟨⟨⟨fun e he r hr => ?_, by omega, fun e he => hS.ok.ok.closed.refs e ((hm e).1 he).1, fun e he => hS.ok.ok.closed.path e ((hm e).1 he).1, Tof_rise hR h⟩, fun e he => hS.ok.ok.tree e ((hm e).1 he).1, fun e he => hS.ok.ok.rs e ((hm e).1 he).1⟩, fun e he => hS.ok.path e ((hm e).1 he).1, fun e he => hS.ok.few e ((hm e).1 he).1⟩, fun e he => hS.pa e ((hm e).1 he).1, fun e he => hS.ri e ((hm e).1 he).1⟩
  obtain ⟨he1, he2⟩ := (hm e).1 he
  have hrd := List.all_eq_true.1 (HP.OrdSt.told hR h e he1 he2) r hr
  rw [Bool.or_eq_true, decide_eq_true_eq] at hrd
  rcases hrd with rfl | hrd
  · exact ⟨e, he, rfl⟩
  · obtain ⟨f, hf, hfr⟩ := hS.ok.ok.closed.ref e he1 r hr
    exact ⟨f, (hm f).2 ⟨hf, by rw [hfr]; exact hrd⟩, hfr⟩
end
/-- An entry up to its sum. -/
theorem fI_same {A : List Ent} (l : Bs) (pos : Nat) (all : List Ent) (came added refs : List ByteArray) (g : Gr) {p : ByteArray} (hl : lastS came = p) (hf : findS all p = some ⟨p, g.nodes, refs⟩) : finI A ⟨enc (sumG g).data.toList ++ l, pos, .sum, all, came, added, refs, g⟩ = finI A ⟨l, pos + (enc (sumG g).data.toList).length, .ent, all, came, added, refs, g⟩ := by
  refine finI_take (m' := ⟨enc (sumG g).data.toList ++ l, pos, .ent, all, came, added, refs, g⟩) (sumG g) l (by simp [IS.ln]) rfl (show (sumG g).size ≤ 8 from Nat.le_of_eq (sumO_size _)) (show 8 ≤ 1000 by decide) ?_
  have hput : putS all ⟨p, g.nodes, refs⟩ = (0, all) := by
    unfold putS
    simp only [hf]
    simp [eqL]
  rw [takeI_sum, if_pos rfl, hl, hput, if_pos rfl, hf]
  rfl
/-- An entry that is there already. -/
theorem finI_again {A : List Ent} {e : Ent} {all : List Ent} {came added r0 : List ByteArray} {gz : Gr} (hp : isPathB e.path.data.toList = true) (hc : inL came e.path = false) (hw : firstW e.nodes = none) (hr : riseL e.refs = true) (hl : ∀ r ∈ e.refs, lackS all e.path r = false ∧ r.size ≤ 12) (hf : findS all e.path = some e) (rest : Bs) (pos : Nat) :
    ∃ g : Gr, finI A ⟨entBs e.path (packB e.nodes) e.refs ++ rest, pos, .ent, all, came, added, r0, gz⟩ = finI A ⟨rest, pos + (entBs e.path (packB e.nodes) e.refs).length, .ent, all, came ++ [e.path], added, e.refs, g⟩ := by
  have hps : e.path.size ≤ 12 := by
    unfold isPathB at hp
    simp only [Bool.and_eq_true, decide_eq_true_eq] at hp
    have : e.path.data.toList.length = e.path.size := by simp
    omega
  have hpk : (packB e.nodes).data.toList = packBytes e.nodes := by unfold packB; simp
  have hlast : lastS (came ++ [e.path]) = e.path := by simp [lastS, List.getD]
  obtain ⟨g, hg, ht⟩ := finI_pack (A := A) hw (bytesOf [wRefs] ++ (refsBs e.refs ++ (bytesOf [wSum, sumO (packB e.nodes)] ++ rest))) (pos + (enc wPath.data.toList).length + (enc e.path.data.toList).length) all (came ++ [e.path]) added []
  refine ⟨g, ?_⟩
  have e1 : entBs e.path (packB e.nodes) e.refs ++ rest = enc wPath.data.toList ++ (enc e.path.data.toList ++ (packBytes e.nodes ++ (bytesOf [wRefs] ++ (refsBs e.refs ++ (bytesOf [wSum, sumO (packB e.nodes)] ++ rest))))) := by
    unfold entBs
    rw [hpk, bytes2 wPath]
    simp only [List.append_assoc]
  have hsum : sumO (packB e.nodes) = sumG g := by unfold sumG; rw [hg]
  have ex : (⟨e.path, g.nodes, e.refs⟩ : Ent) = e := by rw [hg]
  have hlen : (packB e.nodes).size = (packBytes e.nodes).length := by unfold packB; simp [ByteArray.size]
  rw [e1, fI_path, fI_name _ _ _ _ _ _ _ hp hc hps, ht, enc1, fI_refs, finI_refs e.refs [] _ _ (by simpa using hr) (by rw [hlast]; exact hl), List.nil_append, enc2, fI_sum, hsum, fI_same _ _ _ _ _ _ _ hlast (by rw [ex]; exact hf)]
  congr 1
  simp only [IS.mk.injEq, true_and, and_true]
  rw [entBs_length, len2, len1, len2, hsum, hlen]
  omega
theorem exp_again {P : ByteArray → Bool} {S T : List Ent} {out : List ByteArray} (hS : OkR S) (h : HP.OrdSt P S out) (A : List Ent) (ad : List ByteArray) (hT : ∀ p, inL out p = true → findS T p = findS S p) : ∀ (rest : Bs) (pos : Nat), ∃ r g, finI A ⟨outBs S out ++ rest, pos, .ent, T, [], ad, [], g0⟩ = finI A ⟨rest, pos + (outBs S out).length, .ent, T, out, ad, r, g⟩ := by
  induction h with
  | nil => exact fun rest pos => ⟨[], g0, rfl⟩
  | @snoc out e ho hn ih =>
    intro rest pos
    obtain ⟨he, hi, hrd⟩ := next_some hn
    have hR := hS.ok.ok.closed.rise
    have hfe := findS_eq hR he
    have heo : entOf S e.path = entBs e.path (packB e.nodes) e.refs := by unfold entOf; rw [hfe]
    have eo : outBs S (out ++ [e.path]) = outBs S out ++ entBs e.path (packB e.nodes) e.refs := by
      unfold outBs
      rw [List.flatMap_append]
      simp [heo]
    have hT' : ∀ p, inL out p = true → findS T p = findS S p := fun p hp => hT p (by rw [HP.inL_app, hp]; rfl)
    obtain ⟨r1, g1, h1⟩ := ih hT' (entBs e.path (packB e.nodes) e.refs ++ rest) pos
    have hlk : ∀ r ∈ e.refs, lackS T e.path r = false ∧ r.size ≤ 12 := fun r hr => by
      obtain ⟨f, hf, hfr⟩ := hS.ok.ok.closed.ref e he r hr
      refine ⟨?_, by rw [← hfr]; exact hS.ok.path f hf⟩
      have h3 := List.all_eq_true.1 hrd r hr
      unfold lackS
      by_cases e1 : r = e.path
      · rw [decide_eq_true e1]; rfl
      · rw [decide_eq_false e1, Bool.false_or] at h3
        rw [decide_eq_false e1, hT' r h3]
        simp only [Bool.not_false, Bool.true_and]
        exact findS_mem ⟨f, hf, hfr⟩
    obtain ⟨g2, h2⟩ := finI_again (A := A) (e := e) (all := T) (came := out) (added := ad) (r0 := r1) (gz := g1) (hS.pa e he) hi (by rw [firstW_ref]; exact (hS.ok.ok.tree e he).1.right) (hS.ri e he) hlk ((hT e.path (by rw [HP.inL_app]; simp)).trans hfe) rest (pos + (outBs S out).length)
    refine ⟨e.refs, g2, ?_⟩
    rw [eo, List.append_assoc, h1, h2, List.length_append]
    simp only [Nat.add_assoc]
theorem exp_bytes {S : List Ent} {roots out : List ByteArray} (hl : lackR S roots = false) : (exportB S roots out).data.toList = enc wExp.data.toList ++ (outBs S out ++ (enc wEnd.data.toList ++ [])) := by
  unfold exportB
  rw [if_neg (by rw [hl]; simp)]
  show (expBs S out).toArray.toList = _
  unfold expBs
  simp [bytes1, List.append_assoc]
/-- The same bytes once more. -/
theorem import_again {S : List Ent} {roots out : List ByteArray} (hS : OkR S) (hl : lackR S roots = false) (h : ClosR S roots out) : importF (Tof S out) (exportB S roots out).data.toList = (([], 0, 0), Tof S out) := by
  unfold ClosR at h
  rw [if_neg (by rw [hl]; simp)] at h
  have hR := hS.ok.ok.closed.rise
  obtain ⟨r, g, h1⟩ := exp_again hS h.1 (Tof S out) [] (T := Tof S out) (fun p hp => by rw [(Tof_find hR h.1).1, if_pos hp]) (enc wEnd.data.toList ++ []) (0 + (enc wExp.data.toList).length)
  rw [importF_fin, exp_bytes hl, fI_head, h1, fI_end, fI_done]
theorem find_filter {q c c' : Ent → Bool} {e : Ent} : ∀ {S : List Ent}, S.find? c = some e → q e = true → (∀ x ∈ S, q x = true → c x = c' x) → (S.filter q).find? c' = some e
  | [], h, _, _ => by cases h
  | x :: S, h, hq, hc => by
    rw [List.find?_cons] at h
    cases hx : c x with
    | true =>
      rw [hx] at h
      injection h with h
      subst h
      rw [List.filter_cons_of_pos hq, List.find?_cons, ← hc x List.mem_cons_self hq, hx]
    | false =>
      rw [hx] at h
      have ih := find_filter h hq (fun y hy => hc y (List.mem_cons_of_mem _ hy))
      cases hqx : q x with
      | true => rw [List.filter_cons_of_pos hqx, List.find?_cons, ← hc x List.mem_cons_self hqx, hx]; exact ih
      | false => rw [List.filter_cons_of_neg (by rw [hqx]; simp)]; exact ih
theorem ord_T {P P' : ByteArray → Bool} {S : List Ent} {out : List ByteArray} (h : HP.OrdSt P S out) {outF : List ByteArray} (hsub : ∀ p, inL out p = true → inL outF p = true) (hP : ∀ e ∈ S, inL outF e.path = true → P e.path = P' e.path) : HP.OrdSt P' (S.filter fun e => inL outF e.path) out := by
  induction h with
  | nil => exact .nil
  | @snoc out e ho hn ih =>
    refine .snoc (ih fun p hp => hsub p (by rw [HP.inL_app, hp]; rfl)) ?_
    unfold HP.nextF at hn ⊢
    refine find_filter hn (hsub e.path (by rw [HP.inL_app]; simp)) fun x hx hq => ?_
    unfold HP.condB
    rw [hP x hx hq]
/-- No entry leads to itself by way of others. -/
def Acyc (S : List Ent) : Prop := ∃ rank : ByteArray → Nat, ∀ e ∈ S, ∀ r ∈ e.refs, r = e.path ∨ rank r < rank e.path
/-- All that is reached is told. -/
theorem final_full {S : List Ent} {roots out : List ByteArray} (hA : Acyc S) (hC : ClosedS S) (hl : lackR S roots = false) (h : HP.Final (HP.rchB S roots) S out) : ∀ p, HP.Rch S roots p → inL out p = true := by
  obtain ⟨rank, hrk⟩ := hA
  have hent : ∀ p, HP.Rch S roots p → ∃ e ∈ S, e.path = p := fun p hp => by
    cases hp with
    | root hm =>
      refine findS_not ?_
      cases hn : (findS S p).isNone with
      | false => rfl
      | true => rw [show lackR S roots = true from List.any_eq_true.2 ⟨p, hm, hn⟩] at hl; cases hl
    | ref _ he hr => exact hC.ref _ he _ hr
  have main : ∀ n p, rank p < n → HP.Rch S roots p → inL out p = true := by
    intro n
    induction n with
    | zero => exact fun p hp => absurd hp (Nat.not_lt_zero _)
    | succ n ih =>
      intro p hpn hp
      obtain ⟨e, he, rfl⟩ := hent p hp
      cases hi : inL out e.path with
      | true => rfl
      | false =>
        have hrd : HP.readyB out e = true := List.all_eq_true.2 fun r hr => by
          rw [Bool.or_eq_true, decide_eq_true_eq]
          rcases hrk e he r hr with h1 | h1
          · exact .inl h1
          · exact .inr (ih r (by omega) (.ref hp he hr))
        have hcond : HP.condB (HP.rchB S roots) out e = true := by
          unfold HP.condB
          rw [HP.rchB_iff.2 hp, hi, hrd]
          rfl
        have hnone := h.2
        unfold HP.nextF at hnone
        exact absurd hcond (List.find?_eq_none.1 hnone e he)
  exact fun p hp => main (rank p + 1) p (Nat.lt_succ_self _) hp
/-- What paths lead to, where it was imported: the same. -/
theorem clos_T {S : List Ent} {roots out : List ByteArray} (hS : OkR S) (hA : Acyc S) (hl : lackR S roots = false) (h : ClosR S roots out) : lackR (Tof S out) roots = false ∧ ClosR (Tof S out) roots out ∧ exportB (Tof S out) roots out = exportB S roots out := by
  have h0 := h
  unfold ClosR at h
  rw [if_neg (by rw [hl]; simp)] at h
  have hR := hS.ok.ok.closed.rise
  have hfull := final_full hA hS.ok.ok.closed hl h
  have hT := Tof_find hR h.1
  have hl2 : lackR (Tof S out) roots = false := by
    cases hx : lackR (Tof S out) roots with
    | false => rfl
    | true =>
      obtain ⟨r, hr, hn⟩ := List.any_eq_true.1 hx
      rw [hT.1, if_pos (hfull r (.root hr))] at hn
      rw [show lackR S roots = true from List.any_eq_true.2 ⟨r, hr, hn⟩] at hl
      cases hl
  have hrch : ∀ p, HP.Rch S roots p → HP.Rch (Tof S out) roots p := fun p hp => by
    induction hp with
    | root hm => exact .root hm
    | ref hq he hr ih => exact .ref ih ((Tof_mem hR h.1 _).2 ⟨he, hfull _ hq⟩) hr
  refine ⟨hl2, ?_, ?_⟩
  · unfold ClosR
    rw [if_neg (by rw [hl2]; simp), Tof_filter hR h.1]
    refine ⟨ord_T h.1 (fun _ hp => hp) fun e he hi => ?_, ?_⟩
    · have h1 := (h.1.mem e.path (HP.inL_iff.1 hi)).1
      rw [h1]
      symm
      rw [HP.rchB_iff, ← Tof_filter hR h.1]
      exact hrch _ (HP.rchB_iff.1 h1)
    · unfold HP.nextF
      rw [List.find?_eq_none]
      intro x hx
      have := (List.mem_filter.1 hx).2
      unfold HP.condB
      rw [this]
      simp
  · unfold exportB
    rw [if_neg (by rw [hl2]; simp), if_neg (by rw [hl]; simp)]
    have : outBs (Tof S out) out = outBs S out := by
      unfold outBs
      have hx : ∀ l : List ByteArray, (∀ p ∈ l, inL out p = true) → l.flatMap (entOf (Tof S out)) = l.flatMap (entOf S) := by
        intro l
        induction l with
        | nil => exact fun _ => rfl
        | cons p l ih =>
          intro hm
          rw [List.flatMap_cons, List.flatMap_cons, ih fun x hx => hm x (List.mem_cons_of_mem _ hx)]
          congr 1
          unfold entOf
          rw [hT.1, if_pos (hm p List.mem_cons_self)]
      exact hx out fun p hp => HP.inL_iff.2 hp
    unfold expBs
    rw [this]
end Go.Proofs.YticfcjmlphhpgabGreatDoor
