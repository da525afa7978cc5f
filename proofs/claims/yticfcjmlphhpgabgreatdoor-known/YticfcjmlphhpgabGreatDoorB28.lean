import Derived.Test.YticfcjmlphhpgabGreatDoorB19
import Derived.Test.YticfcjmlphhpgabGreatDoorB23
import Derived.Test.YticfcjmlphhpgabGreatDoorB26
import Derived.Test.YticfcjmlphhpgabGreatDoorB27
import Derived.Shelf.SlMaps.Clone
import Derived.Lib.SlMapMerge
namespace Go.Proofs.YticfcjmlphhpgabGreatDoor
open Go.RowKit

theorem exec_pos : ∀ (f : Nat) (K : List It) (l : Bs) (p p' : Nat) (g : Gr) (z : Pt), exec f K ⟨l, p, g⟩ = .yes z → ∃ z', exec f K ⟨l, p', g⟩ = .yes z' ∧ z'.gr = z.gr
  | f, [], l, p, p', g, z, h => by
    have h : (Ex.yes ⟨l, p, g⟩ : Ex Pt) = .yes z := by cases f <;> exact h
    injection h with h
    subst h
    exact ⟨⟨l, p', g⟩, by cases f <;> rfl, rfl⟩
  | 0, _ :: _, _, _, _, _, _, h => by cases h
  | f + 1, i :: K, l, p, p', g, z, h => by
    simp only [exec, one] at h ⊢
    cases hc : cutF l i.most with
    | wait => rw [hc] at h; cases h
    | bad e => rw [hc] at h; cases h
    | ok s rest n =>
      rw [hc] at h
      simp only at h ⊢
      cases ht : takeF g i ⟨s.toArray⟩ with
      | err e => rw [ht] at h; cases h
      | more g' push =>
        rw [ht] at h
        exact exec_pos f (push ++ K) rest (p + n) (p' + n) g' z h
theorem run_pos {K : List It} {l : Bs} {p : Nat} (p' : Nat) {g : Gr} {z : Pt} (h : run K ⟨l, p, g⟩ = .yes z) : ∃ z', run K ⟨l, p', g⟩ = .yes z' ∧ z'.gr = z.gr := exec_pos _ K l p p' g z h
/-- Whatever comes: what is read whole is a tree. -/
def TreeInv (K : List It) (g : Gr) : Prop := ∀ x z : Pt, x.gr = g → run K x = .yes z → firstW z.gr.nodes = none
theorem TreeInv.init : TreeInv [.word wNar, .bracket] g0 := fun _ _ hx h => (run_tree hx h).2.2
theorem TreeInv.step {g g' : Gr} {i : It} {s : ByteArray} {push K : List It} (h : TreeInv (i :: K) g) (ht : takeF g i s = .more g' push) (hs : s.size ≤ i.most) : TreeInv (push ++ K) g' := by
  rintro ⟨l, p, gx⟩ z rfl hr
  have hsl : s.data.toList.length = s.size := by simp
  have hm : i.most ≤ 100 := by cases i <;> simp [It.most]
  have hc := cut_enc s.data.toList l i.most (by omega) (by omega)
  obtain ⟨z', hz, hg⟩ := run_pos (0 + (enc s.data.toList).length) hr
  have h1 : run (i :: K) ⟨enc s.data.toList ++ l, 0, g⟩ = .yes z' := by
    rw [run_cons]
    unfold one
    simp only [hc]
    rw [ba_eta, ht]
    exact hz
  rw [← hg]
  exact h _ z' rfl h1
theorem TreeInv.done {g : Gr} (h : TreeInv [] g) : firstW g.nodes = none := h ⟨[], 0, g⟩ ⟨[], 0, g⟩ rfl (run_nil _)
def tvOk (g : Gr) : Ph → Prop
  | .tree K => TreeInv K g
  | .refs => firstW g.nodes = none
  | .ref => firstW g.nodes = none
  | .sum => firstW g.nodes = none
  | _ => True
/-- What every state keeps. -/
structure IInv (st : IS) (tot : Nat) : Prop where
  inv : Inv ⟨st.left, st.pos, treeK st.ph, st.g⟩ tot
  cl : st.came.length ≤ st.pos
  adl : st.added.length ≤ st.pos
  rl : st.refs.length ≤ st.pos
  ne : live st.ph = true → st.came ≠ []
  cp : ∀ p ∈ st.came, p.size ≤ 12
  tv : tvOk st.g st.ph
  al : ∀ e ∈ st.all, e.refs.length ≤ 1000000000
theorem IInv.sum {st : IS} {tot : Nat} (h : IInv st tot) : st.pos + st.left.length ≤ tot := h.inv.sum
theorem Inv.adv {l l' : Bs} {p p' : Nat} {g : Gr} {tot : Nat} (h : Inv ⟨l, p, [], g⟩ tot) (hp : p ≤ p') (hs : p' + l'.length ≤ tot) : Inv ⟨l', p', [], g⟩ tot :=
  ⟨hs, by simp, h.ln, by have := h.ld; simp only at *; omega, by have := h.lp; simp only at *; omega, fun n hn => by have := h.np n hn; simp only at *; omega, fun d hd => by have := h.dp d hd; simp only at *; omega, h.cd, trivial, (fun i hi => by cases hi)⟩
theorem Inv.start {l : Bs} {p tot : Nat} (hs : p + l.length ≤ tot) : Inv ⟨l, p, [.word wNar, .bracket], g0⟩ tot :=
  ⟨hs, by simp, by simp [g0], by simp [g0], Nat.zero_le _, (fun n hn => by cases hn), (fun n hn => by cases hn), rfl, trivial, fun i hi hn => by
    simp at hi
    rcases hi with rfl | rfl <;> cases hn⟩
theorem putS_mem {S : List Ent} {x e : Ent} (h : e ∈ (putS S x).2) : e ∈ S ∨ e = x := by
  unfold putS at h
  split at h
  · exact .inl h
  · split at h
    · exact .inl h
    · exact (insS_mem h).symm
theorem IInv.step {st st' : IS} {tot : Nat} (h : IInv st tot) (ht : tot ≤ 1000000000) (hs : stepI st = .go st') : IInv st' tot := by
  have hgo := stepI_go hs
  have hsum := h.sum
  unfold stepI at hs
  split at hs
  · split at hs <;> cases hs
  · unfold takenI at hs
    split at hs
    · cases hs
    · cases hs
    · rename_i s rest n hc
      have hcl := cutF_len hc
      split at hs
      · cases hs
      · rename_i st2 htk
        injection hs with hs
        subst hs
        obtain ⟨l, pos, ph, all, came, added, refs, g⟩ := st
        have hi := h.inv
        have c1 := h.cl
        have c2 := h.adl
        have c3 := h.rl
        have c4 := h.ne
        have c5 := h.cp
        have c6 := h.tv
        have c7 := h.al
        simp only at hi c1 c2 c3 c4 c5 c6 c7 hsum hgo hcl hc
        have hp8 : 8 ≤ n := by omega
        have d1 : came.length ≤ pos + n := by omega
        have d2 : added.length ≤ pos + n := by omega
        have d3 : refs.length ≤ pos + n := by omega
        have adv : ∀ {p : Nat} {x : Bs}, Inv ⟨x, p, [], g⟩ tot → p = pos → Inv ⟨rest, pos + n, [], g⟩ tot := fun hx hp => Inv.adv hx (by omega) (by omega)
        cases ph with
        | done => cases htk
        | head =>
          simp only [takeI] at htk
          split at htk
          · injection htk with htk
            subst htk
            exact ⟨adv hi rfl, d1, d2, d3, (fun e => by cases e), c5, trivial, c7⟩
          · cases htk
        | ent =>
          simp only [takeI] at htk
          split at htk
          · injection htk with htk
            subst htk
            exact ⟨adv hi rfl, d1, d2, d3, (fun e => by cases e), c5, trivial, c7⟩
          · split at htk
            · injection htk with htk
              subst htk
              exact ⟨adv hi rfl, d1, d2, d3, (fun e => by cases e), c5, trivial, c7⟩
            · cases htk
        | path =>
          rw [takeI_path] at htk
          split at htk
          · cases htk
          · rename_i hpath
            split at htk
            · cases htk
            · injection htk with htk
              subst htk
              refine ⟨Inv.start (p := pos + n) (l := rest) (by omega), by show (came ++ [_]).length ≤ pos + n; simp; omega, d2, Nat.zero_le _, (fun _ => by simp), fun p hp => ?_, TreeInv.init, c7⟩
              rcases List.mem_append.1 hp with hp | hp
              · exact c5 p hp
              · rw [List.mem_singleton] at hp
                subst hp
                rw [ba_size]
                exact hcl.2.2.2
        | refs =>
          simp only [takeI] at htk
          split at htk
          · injection htk with htk
            subst htk
            exact ⟨adv hi rfl, d1, d2, d3, c4, c5, c6, c7⟩
          · split at htk
            · injection htk with htk
              subst htk
              exact ⟨adv hi rfl, d1, d2, d3, c4, c5, c6, c7⟩
            · cases htk
        | ref =>
          rw [takeI_ref] at htk
          split at htk
          · cases htk
          · split at htk
            · cases htk
            · injection htk with htk
              subst htk
              exact ⟨adv hi rfl, d1, d2, by show (refs ++ [_]).length ≤ pos + n; simp; omega, c4, c5, c6, c7⟩
        | sum =>
          rw [takeI_sum] at htk
          split at htk
          · split at htk
            · injection htk with htk
              subst htk
              refine ⟨adv hi rfl, d1, ?_, d3, (fun e => by cases e), c5, trivial, fun e he => ?_⟩
              · show (if _ then _ else _ : List ByteArray).length ≤ pos + n
                split
                · simp; omega
                · omega
              · rcases putS_mem he with he | rfl
                · exact c7 e he
                · show refs.length ≤ _; omega
            · cases htk
          · cases htk
        | tree K =>
          cases K with
          | nil =>
            simp only [takeI] at htk
            split at htk
            · injection htk with htk
              subst htk
              exact ⟨adv hi rfl, d1, d2, d3, c4, c5, c6.done, c7⟩
            · cases htk
          | cons i K =>
            simp only [takeI] at htk
            cases hF : takeF g i ⟨s.toArray⟩ with
            | err e => rw [hF] at htk; cases htk
            | more g' push =>
              rw [hF] at htk
              injection htk with htk
              subst htk
              have hst : stepF ⟨l, pos, i :: K, g⟩ = .go ⟨rest, pos + n, push ++ K, g'⟩ := by
                have hc' : cutF l i.most = .ok s rest n := hc
                simp only [stepF, hc', hF]
              exact ⟨hi.step hst, d1, d2, d3, c4, c5, TreeInv.step c6 hF (by rw [ba_size]; exact hcl.2.2.2), c7⟩
theorem IInv.add {st : IS} {tot : Nat} (h : IInv st tot) (b : Bs) : IInv (st.add b) (tot + b.length) := by
  obtain ⟨l, pos, ph, all, came, added, refs, g⟩ := st
  exact ⟨Inv.add (st := ⟨l, pos, treeK ph, g⟩) h.inv b, h.cl, h.adl, h.rl, h.ne, h.cp, h.tv, h.al⟩
theorem lastS_mem {l : List ByteArray} (h : l ≠ []) : lastS l ∈ l := by
  have : 0 < l.length := List.length_pos_iff.2 h
  unfold lastS
  rw [List.getD_eq_getElem?_getD, List.getElem?_eq_getElem (by omega), Option.getD_some]
  exact List.getElem_mem _
/-- ONE STRING MORE. -/
theorem impStep {F : Nat → Prop} {B0 B R b : Nat} {w : World} {left : Value} {st : IS} {tot : Nat} (hB0 : B0 ≤ b) (hbB : b < B) (hM : IM F B R b w left st) (hL : LeftAt w left st.left) (hJ : IInv st tot) (ht : tot ≤ 50000000) (hT : Lib.Utf8Tabs 0 1 w) (hB2 : 2 ≤ B) :
    StepSaid 88 B0 B R stepI IS.left (IM F B R b) w st := by
  obtain ⟨lst, nds, drs, cv, rv, av, tail, htl, h, hta, hi⟩ := hM
  have h0 : B0 ≤ B := by omega
  have hsum := hJ.sum
  have hcl := hJ.cl
  have hadl := hJ.adl
  have hrl := hJ.rl
  obtain ⟨l, pos, ph, all, came, added, refs, g⟩ := st
  simp only at h hta hi hL hsum hcl hadl hrl
  cases ph with
  | done =>
    have hta : tail = [] := hta
    subst hta
    obtain ⟨ivs, h1, hrs⟩ := h.rs
    cases ivs with
    | cons x y => exact h1.elim
    | nil =>
      refine step_end hrs hL (by omega) _ ?_ ?_
      · intro hl w' hb
        have e1 : stepI ⟨l, pos, .done, all, came, added, refs, g⟩ = .stop := by simp only [stepI, IS.ln, if_pos, if_pos hl]
        rw [e1]
        exact ⟨rfl, hb⟩
      · intro hl w' hbad hb _
        have e1 : stepI ⟨l, pos, .done, all, came, added, refs, g⟩ = .fail 10 pos := by simp only [stepI, IS.ln, if_pos, if_neg hl]
        rw [e1]
        exact ⟨rfl, hbad, hb.mono h0⟩
  | head =>
    obtain ⟨bx, rfl, hbx⟩ := hta
    refine step_imp h0 (by simp [IS.ln]) h hi hL (by show l.length ≤ _; omega) (by show pos ≤ _; omega) (by simp [IS.most]) 66 #[] #[.pointer (some ⟨bx, 0, none⟩)] rfl (enters_of Tryz.func66 (by kernel_rfl) rfl) ?_
    intro w1 left1 lst1 pos1 s hy _ hb1 hk1 hM1 hI1
    refine (takeWord_any bx wExp s w1 (hk1 _ _ _ _ hbx (by decide))).mono ?_
    rintro e w2 ⟨rfl, rfl⟩
    simp only [takeI]
    by_cases hs : s = wExp
    · rw [if_pos hs, if_pos hs]
      exact ⟨rfl, ⟨_, _, _, _, _, _, _, _, hM1, rfl, hI1⟩, Below.refl _ _, KT.refl _ _⟩
    · rw [if_neg hs, if_neg hs]
      exact ⟨rfl, hM1.rblk, Below.refl _ _⟩
  | ent =>
    have hta : tail = [ivX R] := hta
    subst hta
    refine step_imp h0 (by simp [IS.ln]) h hi hL (by show l.length ≤ _; omega) (by show pos ≤ _; omega) (by simp [IS.most]) 41 #[.pointer (some ⟨R, 0, none⟩)] #[] rfl (enters_of Tryz.func41 (by kernel_rfl) rfl) ?_
    intro w1 left1 lst1 pos1 s hy _ hb1 hk1 hM1 hI1
    exact takeInExport_any h0 hM1 hI1 rfl s
  | path =>
    have hta : tail = [ivP R] := hta
    subst hta
    refine step_imp h0 (by simp [IS.ln]) h hi hL (by show l.length ≤ _; omega) (by show pos ≤ _; omega) (by simp [IS.most]) 67 #[.pointer (some ⟨R, 0, none⟩)] #[] rfl (enters_of Tryz.func67 (by kernel_rfl) rfl) ?_
    intro w1 left1 lst1 pos1 s hy hs hb1 hk1 hM1 hI1
    exact takePath_any h0 hM1 hI1 rfl s (by have : s.size ≤ 12 := hs; omega) (by show came.length ≤ _; omega)
  | refs =>
    have hta : tail = [ivR R] := hta
    subst hta
    refine step_imp h0 (by simp [IS.ln]) h hi hL (by show l.length ≤ _; omega) (by show pos ≤ _; omega) (by simp [IS.most]) 87 #[.pointer (some ⟨R, 0, none⟩)] #[] rfl (enters_of Tryz.func87 (by kernel_rfl) rfl) ?_
    intro w1 left1 lst1 pos1 s hy _ hb1 hk1 hM1 hI1
    exact takeInRefs_any h0 hM1 hI1 rfl (tabs_B hB2 hT hb1) ⟨hJ.tv⟩ s
  | ref =>
    have hta : tail = [ivF R, ivR R] := hta
    subst hta
    refine step_imp h0 (by simp [IS.ln]) h hi hL (by show l.length ≤ _; omega) (by show pos ≤ _; omega) (by simp [IS.most]) 102 #[.pointer (some ⟨R, 0, none⟩)] #[] rfl (enters_of Tryz.func102 (by kernel_rfl) rfl) ?_
    intro w1 left1 lst1 pos1 s hy hs hb1 hk1 hM1 hI1
    exact takeRef_any h0 rfl hM1 hI1 rfl (hJ.ne rfl) (by show came.length ≤ _; omega) (by show refs.length ≤ _; omega) s (by have : s.size ≤ 12 := hs; omega)
  | sum =>
    obtain ⟨b1, b2, b3, rfl, x1, x2, x3⟩ := hta
    have hcp := hJ.cp _ (lastS_mem (hJ.ne rfl))
    refine step_imp h0 (by simp [IS.ln]) h hi hL (by show l.length ≤ _; omega) (by show pos ≤ _; omega) (by simp [IS.most]) 123 #[] #[.pointer (some ⟨b1, 0, none⟩), .pointer (some ⟨b2, 0, none⟩), .pointer (some ⟨b3, 0, none⟩)] rfl (enters_of Tryz.func123 (by kernel_rfl) rfl) ?_
    intro w1 left1 lst1 pos1 s hy _ hb1' hk1 hM1 hI1
    exact takeSum_any hB0 rfl hM1 hI1 rfl (hJ.ne rfl) (by show came.length ≤ _; omega) (by show added.length ≤ _; omega) (by show refs.length ≤ _; omega) hJ.al (by show (lastS came).size ≤ _; simp only at hcp; omega) b1 b2 b3 (hk1 _ _ _ _ x1 (by decide)) (hk1 _ _ _ _ x2 (by decide)) (hk1 _ _ _ _ x3 (by decide)) s
  | tree K =>
    cases K with
    | nil =>
      obtain ⟨bx, rfl, hbx⟩ := hta
      refine step_imp h0 (by simp [IS.ln]) h hi hL (by show l.length ≤ _; omega) (by show pos ≤ _; omega) (by simp [IS.most]) 66 #[] #[.pointer (some ⟨bx, 0, none⟩)] rfl (enters_of Tryz.func66 (by kernel_rfl) rfl) ?_
      intro w1 left1 lst1 pos1 s hy _ hb1 hk1 hM1 hI1
      refine (takeWord_any bx wRefs s w1 (hk1 _ _ _ _ hbx (by decide))).mono ?_
      rintro e w2 ⟨rfl, rfl⟩
      simp only [takeI]
      by_cases hs : s = wRefs
      · rw [if_pos hs, if_pos hs]
        exact ⟨rfl, ⟨_, _, _, _, _, _, _, _, hM1, rfl, hI1⟩, Below.refl _ _, KT.refl _ _⟩
      · rw [if_neg hs, if_neg hs]
        exact ⟨rfl, hM1.rblk, Below.refl _ _⟩
    | cons i K =>
      have hst : stepI ⟨l, pos, .tree (i :: K), all, came, added, refs, g⟩ = match stepF ⟨l, pos, i :: K, g⟩ with
          | .stop => .stop
          | .fail e p => .fail e p
          | .go s => .go ⟨s.left, s.pos, .tree s.list, all, came, added, refs, s.gr⟩ := by
        have hln : ¬ IS.ln ⟨l, pos, .tree (i :: K), all, came, added, refs, g⟩ = 0 := by simp [IS.ln]
        have hm : IS.most ⟨l, pos, .tree (i :: K), all, came, added, refs, g⟩ = i.most := rfl
        simp only [stepI, if_neg hln, stepF, hm]
        cases hc : cutF l i.most with
        | wait => rfl
        | bad e => rfl
        | ok s rest n =>
          simp only [takenI, takeI]
          cases hF : takeF g i ⟨s.toArray⟩ <;> rfl
      refine (step_it (st := ⟨l, pos, i :: K, g⟩) rfl h hL hJ.inv ht hT hB2).mono ?_
      intro e w' hp
      rw [hst]
      cases hF : stepF ⟨l, pos, i :: K, g⟩ with
      | stop => rw [hF] at hp; exact hp
      | fail er p =>
        rw [hF] at hp
        exact ⟨hp.1, hp.2.1, hp.2.2.1.mono h0⟩
      | go st' =>
        rw [hF] at hp
        obtain ⟨he, left', lst', nds', drs', hM', hL', hb', hk'⟩ := hp
        exact ⟨he, left', ⟨lst', nds', drs', cv, rv, av, tail, htl, hM', hta.kt hk' (by decide) (by decide), hi.kt hb' hk' (by decide)⟩, hL', hb'.mono h0⟩
end Go.Proofs.YticfcjmlphhpgabGreatDoor
namespace Go.Proofs.YticfcjmlphhpgabGreatDoor
open Go.RowKit Go.Shelf Go.Maps

set_option maxRecDepth 20000 in
set_option maxHeartbeats 1000000 in
theorem mapsClone_any (b : Nat) (es : Array MapEntry) (clock : Nat) (w : World) (hb : w.heap[b]? = some (.map es clock)) :
    Calls Tryz.prog 37 #[.map (some b)] w fun e w' => e = .returned (.map (some w.heap.size)) ∧ w' = w.alloc (.map es clock) := by
  have hq := fun w => run_eql_map_nil_sl (P := Tryz.prog) w 60 _ _ (some b) Tryz.underlying60
  go_enter Tryz.func37, Tryz.ntmps37
  go_wp2
  rw [run_callFunc_extern Tryz.func64 (by kernel_rfl) (by kernel_rfl) (by kernel_rfl) (e := Extern.MapsClone.clone) (by kernel_rfl), run_maps_clone_sl w 60 hb]
  simp only [Result.andThen]
  rw [Oper.upon_value]
  go_wp2
  rw [run_typeAssert_map_sl _ 60 20 _ _ _ Tryz.underlying60]
  simp only [Result.andThen]
  rw [Oper.upon_value]
  go_wp2
  go_ret
  exact ⟨rfl, rfl⟩
theorem MapAt.tight {w : World} {b n : Nat} {L : List (Bs × Value)} (h : w.ownsMap Tryz.prog 9 rawR b n (mapD L)) : MapAt w b L := by
  obtain ⟨es, clock, hb, hF, hs, hD⟩ := h
  refine ⟨es, clock, hb, hF, ?_, hD⟩
  unfold mapD at hD
  injection hD with hD
  have := congrArg List.length hD
  rw [length_sorted] at this
  simp at this
  omega
theorem has_other (L : List (Bs × Value)) (k : Lit) (h : ∀ s, k ≠ .string s) : has (mapD L) k = false := by
  rw [show mapD L = .map (L.map fun e => (Lit.string e.1, DataW.held e.2)) from rfl, has_eq, List.any_eq_false]
  intro p hp
  rw [List.mem_map] at hp
  obtain ⟨e, _, rfl⟩ := hp
  intro hk
  cases k with
  | string s => exact h s rfl
  | _ => cases hk
theorem has_sub {Ld Ls : List (Bs × Value)} (hsub : ∀ k, (findK Ld k).isSome = true → (findK Ls k).isSome = true) (k : Lit) (h : has (mapD Ld) k = true) : has (mapD Ls) k = true := by
  by_cases hk : ∃ s, k = .string s
  · obtain ⟨s, rfl⟩ := hk
    rw [has_mapD] at h ⊢
    exact hsub s h
  · rw [has_other Ld k (fun s e => hk ⟨s, e⟩)] at h
    cases h
theorem key9_lit {x : ByteArray} {kl : Lit} (h : keyOf Tryz.prog 9 (.string x) = some kl) : kl = .string x.data.toList := by
  simp [keyOf, Tryz.underlying9, mapKey] at h
  exact h.2.symm
set_option maxRecDepth 100000 in
set_option maxHeartbeats 4000000 in
theorem mapsCopy_any (bd bs : Nat) (Ld Ls : List (Bs × Value)) (w : World) (hd : MapAt w bd Ld) (hs : MapAt w bs Ls) (hE : Ents Ls) (hne : bd ≠ bs) (hroom : Ld.length + Ls.length ≤ 1000) (hsub : ∀ k, (findK Ld k).isSome = true → (findK Ls k).isSome = true) :
    Calls Tryz.prog 44 #[.map (some bd), .map (some bs)] w fun e w' => e = .returned (.tuple #[]) ∧ MapAt w' bd Ls ∧ w.grownBy w' (some bd) := by
  have hbd := World.ownsMap.lt hd
  have hbs := World.ownsMap.lt hs
  have HE := hide hE
  have HSub := hide hsub
  have HD := hide hd
  have HS := hide hs
  have hsz := size_mapD Ls
  clear hd hs hE hsub
  go_enter Tryz.func44, Tryz.ntmps44
  go_wp2_with (first
    | (at_range; refine wpList_range_own _ rfl _ 60 rfl 9 74 keyed9 Tryz.underlying60 rawR bs Ls.length (mapD Ls) rfl HS.out ?_; intro w0 hrg0 hg0 hs0)
    | go_in)
  go_frame
  go_loopw [8] (fun _ wr => ∃ (left : Lit → Bool) (cnt : Nat) (Dout : DataW Value), Hid (wr.ranges Tryz.prog 9 rawR bs w.heap.size Ls.length (mapD Ls) left cnt) ∧ cnt ≤ Maps.size (mapD Ls) ∧
      Hid (wr.ownsMap Tryz.prog 9 rawR bd (Ld.length + (Maps.size (mapD Ls) - cnt)) Dout) ∧ Hid (Merged Dout (mapD Ld) (mapD Ls) left) ∧ Hid (w.grownBy wr (some bd)))
    (fun _ wr => wr.rangeLeft bs w.heap.size)
  case atStart =>
    exact ⟨_, _, mapD Ld, hide hrg0, Nat.le_refl _, hide ((World.ownsMap.kept HD.out hg0 (by simp)).mono (by omega)), hide (merged_start _ _), hide (hg0.but _)⟩
  case round =>
    obtain ⟨left, cnt, Dout, hrg, hcs, hout, hM, hgw⟩ := hrel
    go_wp2_with (first
      | (at_next; go_must (refine wpList_next_ranges _ rfl _ rfl 9 keyed9 rawR Value.string id key9_inv raw_any bs w.heap.size Ls.length (mapD Ls) left cnt rfl hrg.out ?_ ?_))
      | go_in)
    · intro hc0 hl0
      have e : Dout = mapD Ls := by
        refine Maps.ext (hout.out.canon keyed9) (World.ownsMap.canon HS.out keyed9) (fun k => ?_) (fun k z hk => ?_)
        · rw [hM.out.1 k, hl0 k]
          cases hdk : has (mapD Ld) k with
          | false => simp
          | true => rw [has_sub HSub.out k hdk]; rfl
        · have h1 := hM.out.1 k
          rw [hk, hl0 k] at h1
          rw [hM.out.2 k z, hl0 k]
          have h2 : has (mapD Ls) k = true := by
            cases hdk : has (mapD Ld) k with
            | false => rw [hdk] at h1; simpa using h1.symm
            | true => exact has_sub HSub.out k hdk
          rw [h2]; rfl
      go_wp2
      go_end0
      subst e
      exact ⟨rfl, MapAt.tight hout.out, hgw.out⟩
    · intro x c kl yd yp w1 cnt1 hkey hlx hv hat hrg1 hlt hg1 hs1 hen
      obtain ⟨rfl, hyp⟩ : yd = .held c ∧ yp = [] := by
        unfold rawR at hv
        injection hv with hv
        injection hv with h1 h2
        exact ⟨h1.symm, h2.symm⟩
      have hkl := key9_lit hkey
      subst hkl
      obtain ⟨t, a, n, cc, hc⟩ := HE.out.find x.data.toList
      have hcc : c = .agg #[.string t, .slice a n cc] := by
        have h1 := hat (.held noE)
        rw [atKey_mapD] at h1
        injection h1 with h1
        rw [← h1, hc]
      subst hcc
      have hout1 := hide (World.ownsMap.alloc (hout.out.kept hg1 (fun e => by have := Option.some.inj e; omega)) (.cells #[.string t, .slice a n cc] 74))
      have hszl : Ld.length + (Maps.size (mapD Ls) - cnt) < maxLen := by rw [hsz]; unfold maxLen; omega
      go_wp2_with (first
        | (at_mapUpdate; refine wpList_mapUpdate_own _ rfl _ _ _ 60 rfl 9 74 keyed9 Tryz.underlying60 rawR bd _ _ rfl hout1.out hszl _ _ _ rfl rfl hkey _ _ hv ?_; intro w2 hout2 hg2; go_frame)
        | go_in)
      have hga := World.grownBy_alloc w1 (.cells #[.string t, .slice a n cc] 74) none
      have hrg2 := (hrg1.kept hga (by simp) (by simp)).kept hg2 (fun e => hne (Option.some.inj e).symm) (fun e => by have := Option.some.inj e; omega)
      go_roundw
      case rel =>
        exact ⟨_, cnt1, _, hide hrg2, by omega, hide (hout2.mono (by omega)), hide (merged_step hM.out hout.out.isMap (keyed9.key hkey) hat), hide (((hgw.out.andThen hg1 (fun j hj => .inl (by cases hj; exact Nat.le_refl _))).andThen hga (fun j hj => by cases hj)).andThen hg2 (fun j hj => .inr hj))⟩
      case measure => rw [hrg2.left_eq, hrg.out.left_eq]; exact hlt
end Go.Proofs.YticfcjmlphhpgabGreatDoor
namespace Go.Proofs.YticfcjmlphhpgabGreatDoor
open Go.RowKit

theorem findS_ins (x : Ent) (p : ByteArray) : ∀ (S : List Ent), (findS S p).isSome = true → (findS (insS x S) p).isSome = true
  | [], h => by cases h
  | y :: r, h => by
    simp only [insS]
    split
    · unfold findS at h ⊢
      rw [List.find?_isSome] at h ⊢
      obtain ⟨e, he, hp⟩ := h
      exact ⟨e, List.mem_cons_of_mem _ he, hp⟩
    · unfold findS at h ⊢
      rw [List.find?_isSome] at h ⊢
      obtain ⟨e, he, hp⟩ := h
      rcases List.mem_cons.1 he with rfl | he
      · exact ⟨e, by simp, hp⟩
      · have := findS_ins x p r (by unfold findS; rw [List.find?_isSome]; exact ⟨e, he, hp⟩)
        unfold findS at this
        rw [List.find?_isSome] at this
        obtain ⟨e', he', hp'⟩ := this
        exact ⟨e', List.mem_cons_of_mem _ he', hp'⟩
theorem insS_lenJ (x : Ent) : ∀ S, (insS x S).length = S.length + 1
  | [] => rfl
  | y :: r => by
    simp only [insS]
    split
    · rfl
    · rw [List.length_cons, insS_lenJ x r, List.length_cons]
/-- A store that has grown out of another. -/
structure Sup (S A : List Ent) : Prop where
  sub : ∀ p, (findS S p).isSome = true → (findS A p).isSome = true
  len : A.length ≤ 10
theorem Sup.put {S A : List Ent} (h : Sup S A) (x : Ent) : Sup S (putS A x).2 := by
  unfold putS
  split
  · exact h
  · split
    · exact h
    · rename_i hl
      refine ⟨fun p hp => findS_ins x p A (h.sub p hp), ?_⟩
      rw [insS_lenJ]
      omega
theorem Sup.step {S : List Ent} {st st' : IS} (h : Sup S st.all) (hs : stepI st = .go st') : Sup S st'.all := by
  unfold stepI at hs
  split at hs
  · split at hs <;> cases hs
  · unfold takenI at hs
    split at hs
    · cases hs
    · cases hs
    · split at hs
      · cases hs
      · rename_i st2 htk
        injection hs with hs
        subst hs
        obtain ⟨l, pos, ph, all, came, added, refs, g⟩ := st
        have fin : st2.all = all ∨ ∃ x, st2.all = (putS all x).2 := by
          cases ph with
          | done => cases htk
          | head => simp only [takeI] at htk; split at htk <;> first | (cases htk; done) | (injection htk with htk; subst htk; exact .inl rfl)
          | ent =>
            simp only [takeI] at htk
            split at htk
            · injection htk with htk; subst htk; exact .inl rfl
            · split at htk <;> first | (cases htk; done) | (injection htk with htk; subst htk; exact .inl rfl)
          | path =>
            rw [takeI_path] at htk
            split at htk
            · cases htk
            · split at htk <;> first | (cases htk; done) | (injection htk with htk; subst htk; exact .inl rfl)
          | refs =>
            simp only [takeI] at htk
            split at htk
            · injection htk with htk; subst htk; exact .inl rfl
            · split at htk <;> first | (cases htk; done) | (injection htk with htk; subst htk; exact .inl rfl)
          | ref =>
            rw [takeI_ref] at htk
            split at htk
            · cases htk
            · split at htk <;> first | (cases htk; done) | (injection htk with htk; subst htk; exact .inl rfl)
          | sum =>
            rw [takeI_sum] at htk
            split at htk
            · split at htk <;> first | (cases htk; done) | (injection htk with htk; subst htk; exact .inr ⟨_, rfl⟩)
            · cases htk
          | tree K =>
            cases K with
            | nil => simp only [takeI] at htk; split at htk <;> first | (cases htk; done) | (injection htk with htk; subst htk; exact .inl rfl)
            | cons i K => simp only [takeI] at htk; split at htk <;> first | (cases htk; done) | (injection htk with htk; subst htk; exact .inl rfl)
        rcases fin with e | ⟨x, e⟩
        · show Sup S st2.all; rw [e]; exact h
        · show Sup S st2.all; rw [e]; exact h.put x
/-- What a reader of an export keeps between two pieces. -/
def IJ (S : List Ent) (st : IS) (tot : Nat) : Prop := IInv st tot ∧ Sup S st.all
def IRJ (S : List Ent) : RdG IS → Nat → Prop
  | .ok st, tot => IJ S st tot
  | .bad _ _, _ => True
theorem runI_inv {S : List Ent} : ∀ (f : Nat) (st : IS) (tot : Nat), tot ≤ 1000000000 → IJ S st tot → IRJ S (runG stepI f st) tot
  | 0, _, _, _, h => h
  | f + 1, st, tot, ht, h => by
    simp only [runG]
    cases hs : stepI st with
    | stop => exact h
    | fail e p => trivial
    | go st' => exact runI_inv f st' tot ht ⟨h.1.step ht hs, h.2.step hs⟩
theorem feedI_inv {S : List Ent} {rd : RdG IS} {tot : Nat} (h : IRJ S rd tot) (s : Bs) (ht : tot + s.length ≤ 1000000000) : IRJ S (feedI rd s) (tot + s.length) := by
  cases rd with
  | bad e p => trivial
  | ok st => exact runI_inv _ _ _ ht ⟨IInv.add h.1 s, h.2⟩
theorem is0_inv {S : List Ent} (hS : ∀ e ∈ S, e.refs.length ≤ 1000000000) (hl : S.length ≤ 10) : IRJ S (is0 S) 0 :=
  ⟨⟨⟨by simp, by simp [treeK], by simp [g0], by simp [g0], Nat.zero_le _, (fun n hn => by cases hn), (fun n hn => by cases hn), rfl, trivial, (fun i hi => by cases hi)⟩, Nat.le_refl _, Nat.le_refl _, Nat.le_refl _, (fun e => by cases e), (fun p hp => by cases hp), trivial, hS⟩, ⟨fun _ h => h, hl⟩⟩
def joinB (ps : List ByteArray) : Bs := ps.flatMap fun p => p.data.toList
theorem joinB_take (ps : List ByteArray) (j : Nat) (h : j < ps.length) : joinB (ps.take (j + 1)) = joinB (ps.take j) ++ ps[j].data.toList := by
  unfold joinB
  rw [List.take_succ_eq_append_getElem h, List.flatMap_append]
  simp
theorem joinB_le (ps : List ByteArray) (j : Nat) : (joinB (ps.take j)).length ≤ (joinB ps).length := by
  unfold joinB
  conv => rhs; rw [← List.take_append_drop j ps, List.flatMap_append, List.length_append]
  omega
/-- What Import leaves of the store. -/
def ImpPost (F : Nat → Prop) (b : Nat) (w : World) (r : (List ByteArray × Int × Nat) × List Ent) (e : Ending) (w' : World) : Prop :=
  ∃ v B, w.heap.size ≤ B ∧ e = .returned (.tuple #[v, .int .i64 r.1.2.1, .int .i64 (r.1.2.2 : Nat)]) ∧ w'.ownsRow B 9 1 v r.1.1.length (r.1.1.map Value.string) ∧ PStF (fun k => F k ∧ v.ownBlock ≠ some k) w' b r.2 ∧ Wrote b w w'
theorem kbz_of {w w' : World} {b : Nat} (h : w.grownBy w' (some b)) : KBz b w w' := ⟨h.size, fun k hk hne => h.block k hk (fun e => hne (Option.some.inj e))⟩
theorem wrote_of {w w' : World} {b : Nat} (h : w.grownBy w' (some b)) (hb : b < w.heap.size) : Wrote b w w' := ⟨kbz_of h, fun B hB => (Below.refl B w).grown h (by omega) (fun k hk => by cases hk; exact hB)⟩
theorem ImpPost.err {F : Nat → Prop} {b : Nat} {S : List Ent} {w w' : World} (h : PStF F w b S) (hb : Below w.heap.size w w') (er : Int) (p : Nat) : ImpPost F b w (([], er, p), S) (.returned (.tuple #[.slice none 0 0, .int .i64 er, .int .i64 (p : Nat)])) w' :=
  ⟨.slice none 0 0, w.heap.size, Nat.le_refl _, rfl, World.ownsRow_nil _ _ _ _, (h.below hb).mono fun k hk => ⟨hk, fun e => by cases e⟩, Wrote.of h.lt hb⟩
theorem ImpPost.ok {F : Nat → Prop} {b B b' : Nat} {A : List Ent} {w w8 w9 : World} {cv rv av : Value} {came added refs : List ByteArray} {Ld La : List (Bs × Value)} (hF : ∀ k, w.heap.size ≤ k → F k) (hb : Below w.heap.size w w8) (hblt : b < w.heap.size) (hB : w.heap.size ≤ B) (hi : IR F B b' w8 cv rv av false A came added refs) (hmd : MapAt w8 b Ld) (hea : EntsAt w8 La A) (hfa : ∀ x ∈ La, Foot (fun k => FI F B w8 cv rv av false k ∧ k < w8.heap.size) x.2) (hm9 : MapAt w9 b La) (hg : w8.grownBy w9 (some b)) :
    ImpPost F b w ((added, 0, 0), A) (.returned (.tuple #[av, .int .i64 0, .int .i64 ((0 : Nat) : Int)])) w9 := by
  refine ⟨av, B, hB, rfl, own_kb hi.ad (kbz_of hg) (by omega), ⟨La, hm9, hea.mono (fun v ss hs => hs.kb hmd (kbz_of hg)), fun x hx => (hfa x hx).mono fun k hk => ⟨?_, Nat.lt_of_lt_of_le hk.2 hg.size⟩⟩, (Wrote.of hblt hb).trans (wrote_of hg (by have := hb.size; omega))⟩
  rcases hk.1 with h1 | h1
  · exact ⟨h1.2, fun e => by have := (own_ge hi.ad e).1; omega⟩
  · exact ⟨hF k (by omega), h1.2.2.2.1⟩
theorem ln_done {st : IS} (h : st.ln = 0) : st.ph = .done := by
  obtain ⟨l, pos, ph, all, came, added, refs, g⟩ := st
  cases ph <;> simp [IS.ln] at h ⊢
set_option maxRecDepth 20000 in
set_option maxHeartbeats 4000000 in
theorem Import_any (F : Nat → Prop) (b : Nat) (S : List Ent) (vp : Value) (ps : List ByteArray) (w : World) (h : PStF F w b S) (hF : ∀ k, w.heap.size ≤ k → F k) (hT : Lib.Utf8Tabs 0 1 w) (hp : SliceS w vp ps) (hl : ps.length ≤ 1000000) (htot : (joinB ps).length ≤ 50000000) (hS : ∀ e ∈ S, e.refs.length ≤ 1000000000) (hS10 : S.length ≤ 10) :
    Calls Tryz.prog 24 #[.map (some b), vp] w (ImpPost F b w (importF S (joinB ps))) := by
  have hmf : ∀ (fn : Fn) (first cap : Array Value) (w : World), (Instr.makeFunc fn first cap).run Tryz.prog w = .ok (.func fn first cap) w := fun _ _ _ _ => rfl
  have hB2 := tabs2 hT
  obtain ⟨L, hm, hen, hfo⟩ := id h
  obtain ⟨es, clock, hmb, hFit, hsz, hD⟩ := id hm
  have hblt := h.lt
  have cC := hide (mapsClone_any b es clock w hmb)
  have hal1 := (Below.refl _ w).alloc (Nat.le_refl _) (.map es clock)
  have hmc : MapAt (w.alloc (.map es clock)) w.heap.size L := ⟨es, clock, block_new w _, hFit, hsz, hD⟩
  have e1 : (w.alloc (.map es clock)).heap.size = w.heap.size + 1 := by simp
  have hbk := block_new (w.alloc (.map es clock)) (.cells #[.slice none 0 0, .int .i64 0, .slice none 0 0, .int .i64 0, .int .i64 0, .slice none 0 0, .slice none 0 0, .string ⟨#[]⟩, .map (some w.heap.size), .slice none 0 0, .slice none 0 0, .slice none 0 0] 88)
  rw [e1] at hbk
  have hal2 : Below w.heap.size w ((w.alloc (.map es clock)).alloc (.cells #[.slice none 0 0, .int .i64 0, .slice none 0 0, .int .i64 0, .int .i64 0, .slice none 0 0, .slice none 0 0, .string ⟨#[]⟩, .map (some w.heap.size), .slice none 0 0, .slice none 0 0, .slice none 0 0] 88)) := hal1.alloc (by omega) _
  have hmc2 := World.ownsMap.alloc hmc (.cells #[.slice none 0 0, .int .i64 0, .slice none 0 0, .int .i64 0, .int .i64 0, .slice none 0 0, .slice none 0 0, .string ⟨#[]⟩, .map (some w.heap.size), .slice none 0 0, .slice none 0 0, .slice none 0 0] 88)
  have e2 : ((w.alloc (.map es clock)).alloc (.cells #[.slice none 0 0, .int .i64 0, .slice none 0 0, .int .i64 0, .int .i64 0, .slice none 0 0, .slice none 0 0, .string ⟨#[]⟩, .map (some w.heap.size), .slice none 0 0, .slice none 0 0, .slice none 0 0] 88)).heap.size = w.heap.size + 2 := by simp
  obtain ⟨W0, hW0⟩ : ∃ W0, (w.alloc (.map es clock)).alloc (.cells #[.slice none 0 0, .int .i64 0, .slice none 0 0, .int .i64 0, .int .i64 0, .slice none 0 0, .slice none 0 0, .string ⟨#[]⟩, .map (some w.heap.size), .slice none 0 0, .slice none 0 0, .slice none 0 0] 88) = W0 := ⟨_, rfl⟩
  rw [hW0] at hbk hal2 hmc2 e2
  have HW0 := hide hW0
  have hM0 : RM (XI w.heap.size (.slice none 0 0) (.slice none 0 0) (.slice none 0 0) [] (by simp)) (w.heap.size + 1) (w.heap.size + 1) W0 (.slice none 0 0) (.slice none 0 0) (.slice none 0 0) (.slice none 0 0) 0 [] g0 :=
    ⟨hbk, Nat.le_refl _, ⟨[], trivial, World.ownsRow_nil _ _ _ _⟩, World.ownsRow_nil _ _ _ _, World.ownsRow_nil _ _ _ _⟩
  have hI0 : IR F (w.heap.size + 1) w.heap.size W0 (.slice none 0 0) (.slice none 0 0) (.slice none 0 0) false S [] [] [] :=
    ⟨World.ownsRow_nil _ _ _ _, World.ownsRow_nil _ _ _ _, (fun e => by cases e), (fun k hk => by cases hk), (fun e => by cases e), ⟨L, hmc2, hen.mono (fun v ss hs => hs.below hal2), fun x hx => (hfo x hx).mono fun k hk => ⟨.inl ⟨by omega, hk.1⟩, by omega⟩⟩, by omega⟩
  have HM0 := hide (hM0.new (drewB W0))
  have HI0 := hide hI0
  have HA2 := hide hal2
  have HPS := hide h
  have HTb := hide hT
  have HF := hide hF
  have HSP := hide hp
  obtain ⟨pa, pc, hvp, _, _⟩ := id hp
  subst hvp
  have hRJ0 := is0_inv hS hS10
  obtain ⟨RR, hRR⟩ : ∃ RR, importF S (joinB ps) = RR := ⟨_, rfl⟩
  rw [hRR]
  have HRR : Hid (impEnd S (feedI (is0 S) (joinB ps)) = RR) := hide hRR
  clear h hF hT hp hM0 hI0 hal1 hal2 hmc hmc2 hm hen hfo hmb hFit hsz hD hW0 hRR hbk hS
  go_enter Tryz.func24, Tryz.ntmps24
  go_wp2_with fail
  refine cC.out.mono ?_
  rintro e w1 ⟨rfl, rfl⟩
  clear cC
  go_wp2
  rw [HW0.out]
  go_region_with (first
    | (go_at_call 39; refine (Word_any wExp _).mono ?_; rintro e w4 ⟨bx, rfl, hbx, hb4⟩; have hM8 := hide (HM0.out.new hb4))
    | (go_at_call 40; refine (Words_any (.func 41) _ _ _).mono ?_; rintro e w5 ⟨rfl, hb5⟩; have hM9 := hide (hM8.out.new hb5); have hbx5 := (hb5.block _ (lt_of_block hbx)).trans hbx)
    | (go_at_call 38; refine (Must_tail (hM9.out.new ((Below.refl _ _).alloc (Nat.le_refl _) _)) w5.heap.size [ivW bx, ivX (w.heap.size + 1)] (block_new w5 _) hM9.out.lstNew (by simp) (by simp)).mono ?_; rintro e w6 ⟨⟨r, rfl⟩, lst6, hM10, hb6, hk6⟩))
  all_goals
    have hw5 : W0.heap.size ≤ w5.heap.size := Nat.le_trans (drewB W0).size (Nat.le_trans hb4.size hb5.size)
    have hBa : Below (w.heap.size + 1) W0 (w5.alloc (.cells (flatI [ivW bx, ivX (w.heap.size + 1)]).toArray 92)) := (below_ext (below_ext ((drewB W0).mono (by omega)) (by omega) hb4) (by omega) hb5).alloc (by omega) _
    have hBz : Below w.heap.size w w6 := HA2.out.trans ((hBa.trans hb6).mono (by omega))
    have hIz := ((((HI0.out.new (drewB W0) (by omega)).new hb4 (by have := (drewB W0).size; omega)).new hb5 (by have := (drewB W0).size; have := hb4.size; omega)).new ((Below.refl _ _).alloc (Nat.le_refl _) (.cells (flatI [ivW bx, ivX (w.heap.size + 1)]).toArray 92)) (by omega)).kt hb6 hk6 (by decide)
    have hbx6 := hk6 _ _ _ _ (block_keep (.cells (flatI [ivW bx, ivX (w.heap.size + 1)]).toArray 92) hbx5) (by decide)
    have hRd : Hid (RdM 88 (w.heap.size + 1) (w.heap.size + 1) IS.left (IM F (w.heap.size + 1) (w.heap.size + 1) w.heap.size) w6 (is0 S)) := hide ⟨_, ⟨lst6, _, _, _, _, _, _, _, hM10, ⟨bx, rfl, hbx6⟩, hIz⟩, World.ownsRow_nil _ _ _ _⟩
    have HBz := hide hBz
    clear hM10 hIz hbx6 hb6 hk6 hBa hBz hM9 hM8 hbx hbx5 hb4 hb5 HM0 HI0 HW0
    go_wp2
    go_loopw [9, 28] (fun _ i wr => ∃ j : Nat, j ≤ ps.length ∧ i = .int .i64 j ∧ Hid (Below w.heap.size w wr) ∧ Hid (RdM 88 (w.heap.size + 1) (w.heap.size + 1) IS.left (IM F (w.heap.size + 1) (w.heap.size + 1) w.heap.size) wr (feedI (is0 S) (joinB (ps.take j)))) ∧ Hid (IRJ S (feedI (is0 S) (joinB (ps.take j))) (joinB (ps.take j)).length)) (fun _ i _ => ps.length - (intOf i).toNat)
    case atStart => exact ⟨0, by omega, rfl, HBz, hRd, hide hRJ0⟩
    case round =>
      obtain ⟨j, hj, rfl, HB, HRD, HJ⟩ := hrel
      clear HBz hRd
      by_cases hlt : j < ps.length
      · have hltz : (j : Int) < ps.length := by omega
        have hjt := joinB_take ps j hlt
        have hle := joinB_le ps (j + 1)
        rw [hjt, List.length_append] at hle
        obtain ⟨a', cap', hv', hc', hcells⟩ := HSP.out
        injection hv' with hv1 _ hv3
        subst hv1
        subst hv3
        obtain ⟨pb, off, rfl, hpb, hX⟩ := hcells (by omega)
        have c0 := (HB.out.cell (p := ⟨pb, off + j, none⟩) hpb).trans (hX j hlt)
        have cF := Feed_gen (B0 := w.heap.size) (B := w.heap.size + 1) (by omega) impML (impMM F (w.heap.size + 1) (w.heap.size + 1) w.heap.size) (fun st => IJ S st ((joinB (ps.take j)).length + ps[j].data.toList.length)) (fun st hs => by have := hs.1.sum; omega) (fun st st' hs hg => ⟨hs.1.step (by omega) hg, hs.2.step hg⟩) _ (feedI (is0 S) (joinB (ps.take j))) ps[j] HRD.out
          (fun st hst => by have := HJ.out; rw [hst] at this; exact ⟨this.1.add _, this.2⟩)
          (fun w2 left2 st2 hb2 hm2 hl2 hj2 => impStep (Nat.le_refl _) (by omega) hm2 hl2 hj2.1 (by omega) (tabs_B hB2 HTb.out (HB.out.trans hb2)) (by omega))
        have HJ8 := feedI_inv HJ.out ps[j].data.toList (by omega)
        have efe : feedG stepI IS.left IS.add (feedI (is0 S) (joinB (ps.take j))) ps[j].data.toList = feedI (is0 S) (joinB (ps.take (j + 1))) := by rw [hjt]; exact feedI_app _ _ _
        rw [efe] at cF
        rw [show feedI (feedI (is0 S) (joinB (ps.take j))) ps[j].data.toList = feedI (is0 S) (joinB (ps.take (j + 1))) from efe, ← List.length_append, ← hjt] at HJ8
        have CF := hide cF
        have HJ9 := hide HJ8
        clear cF HJ8 efe hX hcells hjt HRD HJ
        generalize ps[j] = s at c0 CF
        go_wp2_with fail
        refine CF.out.mono ?_
        rintro e w8 ⟨⟨r8, rfl⟩, hrd8, hb8⟩
        have HR8 := hide hrd8
        have HB8 := hide (HB.out.trans hb8)
        clear hrd8 hb8 CF
        go_wp2
        go_roundw
        case rel => exact ⟨j + 1, by omega, by go_num, HB8, HR8, HJ9⟩
        case measure => simp [intOf]; omega
      · obtain rfl : j = ps.length := by omega
        have hltz : ¬ (ps.length : Int) < ps.length := by omega
        rw [List.take_length] at HRD HJ
        obtain ⟨rd, hrd⟩ : ∃ rd, feedI (is0 S) (joinB ps) = rd := ⟨_, rfl⟩
        rw [hrd] at HRD HJ HRR
        have cE := hide (End_gen (impMM F (w.heap.size + 1) (w.heap.size + 1) w.heap.size) _ rd HRD.out (fun st hst => by have := HJ.out; rw [hst] at this; have := this.1.sum; omega))
        clear hrd
        cases rd with
        | bad er p =>
          have hne := HRD.out.2
          simp only [endG] at cE
          have hRR := HRR.out
          simp only [impEnd] at hRR
          subst hRR
          have HE : Hid (∀ W, Below w.heap.size w W → ImpPost F b w (([], er, p), S) (.returned (.tuple #[.slice none 0 0, .int .i64 er, .int .i64 (p : Nat)])) W) := hide fun W hW => ImpPost.err HPS.out hW er p
          clear HRR HRD HJ HPS HF HSP HTb
          go_wp2_with fail
          refine cE.out.mono ?_
          rintro e w8 ⟨rfl, q, rfl⟩
          have HE8 := hide (HE.out _ (below_drewN HB.out q))
          clear cE HE
          go_wp2
          go_ret3
          exact HE8.out
        | ok st =>
          by_cases hln : st.ln = 0
          · have hRR := HRR.out
            simp only [impEnd, if_pos hln] at hRR
            subst hRR
            simp only [endG, if_pos hln] at cE
            obtain ⟨left8, ⟨lst, nds, drs, cv, rv, av, tail, htl, hM, hta, hi⟩, hO⟩ := HRD.out
            have hph := ln_done hln
            obtain ⟨l, pos, ph, all, came, added, refs, g⟩ := st
            simp only at hph hM hi
            subst hph
            have hsup : Sup S all := HJ.out.2
            have HMM := hide (show RM (XI w.heap.size cv rv av tail htl) (w.heap.size + 1) (w.heap.size + 1) _ left8 lst nds drs pos [] g from hM)
            have HII := hide (show IR F (w.heap.size + 1) w.heap.size _ cv rv av false all came added refs from hi)
            have hIlt := hM.lt
            clear HRR HRD HJ HSP HTb hM hta hi hO
            go_wp2_with fail
            refine cE.out.mono ?_
            rintro e w8 ⟨rfl, q, rfl⟩
            have HB8 := hide (below_drewN HB.out q)
            have HM8 := hide (HMM.out.new (drewNB _ q))
            have HI8 := hide (HII.out.new (drewNB _ q) (by omega))
            generalize World.drewN _ q = w8 at HB8 HM8 HI8 ⊢
            clear cE HMM HII
            obtain ⟨⟨c8, _, _, c11⟩, _⟩ := HM8.out.more
            obtain ⟨Ld, hmd, hed, _⟩ := HPS.out
            have hmd8 := hmd.blk (HB8.out.block _ hblt)
            obtain ⟨La, hma, hea, hfa⟩ := HI8.out.ps
            have hsub : ∀ k, (findK Ld k).isSome = true → (findK La k).isSome = true := fun k hk => by
              have hd := hed.none ⟨k.toArray⟩
              have ha := hea.none ⟨k.toArray⟩
              have hs := hsup.sub ⟨k.toArray⟩
              simp only at hd ha
              cases h1 : findK Ld k with
              | none => rw [h1] at hk; cases hk
              | some v1 =>
                cases h2 : findK La k with
                | some v2 => rfl
                | none =>
                  exfalso
                  have hd' : (findS S ⟨k.toArray⟩).isNone = false := by rw [← hd]; show (findK Ld k).isNone = false; rw [h1]; rfl
                  have ha' : (findS all ⟨k.toArray⟩).isNone = true := by rw [← ha]; show (findK La k).isNone = true; rw [h2]; rfl
                  have := hs (by cases hf : findS S ⟨k.toArray⟩ with
                    | none => rw [hf] at hd'; cases hd'
                    | some _ => rfl)
                  cases hf : findS all ⟨k.toArray⟩ with
                  | none => rw [hf] at this; cases this
                  | some _ => rw [hf] at ha'; cases ha'
            have cY := hide (mapsCopy_any b w.heap.size Ld La w8 hmd8 hma hea.ents (by omega) (by have := hed.length; have := hea.length; have := hsup.len; omega) hsub)
            have HE : Hid (∀ W, MapAt W b La → w8.grownBy W (some b) → ImpPost F b w ((added, 0, 0), all) (.returned (.tuple #[av, .int .i64 0, .int .i64 ((0 : Nat) : Int)])) W) := hide fun W h1 h2 => ImpPost.ok HF.out HB8.out hblt (by omega) HI8.out hmd8 hea hfa h1 h2
            obtain ⟨aa, ac, hav, _⟩ := own_sl HI8.out.ad
            subst hav
            clear hmd hed hmd8 hma hea hfa hsub hsup HF HPS HI8
            go_wp2_with fail
            refine cY.out.mono ?_
            rintro e w9 ⟨rfl, hm9, hg9⟩
            have hR9 := (hg9.block (w.heap.size + 1) HM8.out.lt (fun e => by have := Option.some.inj e; omega)).trans HM8.out.blk
            have c119 : w9.cell? ⟨w.heap.size + 1, 11, none⟩ = some (.slice aa added.length ac) := by simp [World.cell?, hR9, XI]
            have HE9 := hide (HE.out w9 hm9 hg9)
            clear hR9 hm9 hg9 cY HE HM8
            go_wp2
            go_ret3
            exact HE9.out
          · have hRR := HRR.out
            simp only [impEnd, if_neg hln] at hRR
            subst hRR
            simp only [endG, if_neg hln] at cE
            obtain ⟨pp, hpp⟩ : ∃ pp, st.pos + st.left.length = pp := ⟨_, rfl⟩
            rw [hpp] at cE
            have HE : Hid (∀ W, Below w.heap.size w W → ImpPost F b w (([], 2, st.pos + st.left.length), S) (.returned (.tuple #[.slice none 0 0, .int .i64 2, .int .i64 (pp : Nat)])) W) := hide fun W hW => by rw [← hpp]; exact ImpPost.err HPS.out hW 2 _
            clear HRR HRD HJ HPS HF HSP HTb hpp
            go_wp2_with fail
            refine cE.out.mono ?_
            rintro e w8 ⟨rfl, q, rfl⟩
            have HE8 := hide (HE.out _ (below_drewN HB.out q))
            clear cE HE
            go_wp2
            go_ret3
            exact HE8.out
set_option maxRecDepth 20000 in
set_option maxHeartbeats 1000000 in
theorem narImport_any (F : Nat → Prop) (q b : Nat) (S : List Ent) (vp : Value) (ps : List ByteArray) (w : World) (h : NStF F w q b S) (hF : ∀ k, w.heap.size ≤ k → F k) (hT : Lib.Utf8Tabs 0 1 w) (hp : SliceS w vp ps) (hl : ps.length ≤ 1000000) (htot : (joinB ps).length ≤ 50000000) (hS : ∀ e ∈ S, e.refs.length ≤ 1000000000) (hS10 : S.length ≤ 10) :
    Calls Tryz.prog 11 #[.pointer (some ⟨q, 0, none⟩), vp] w (ImpPost F b w (importF S (joinB ps))) := by
  have cE := hide (entries_any q b w h.1)
  have cC := hide (Import_any F b S vp ps w h.2 hF hT hp hl htot hS hS10)
  obtain ⟨pa, pc, hvp, _, _⟩ := id hp
  subst hvp
  generalize importF S (joinB ps) = r at cC ⊢
  clear h hF hT hp hS
  go_enter Tryz.func11, Tryz.ntmps11
  go_wp2_with fail
  refine cE.out.mono ?_
  rintro e w1 ⟨rfl, rfl⟩
  go_wp2_with fail
  refine cC.out.mono ?_
  rintro e w2 ⟨v, B, hB, rfl, ho, hP, hW⟩
  have HR := hide (show ImpPost F b _ r _ w2 from ⟨v, B, hB, rfl, ho, hP, hW⟩)
  clear hB ho hP hW cC
  go_wp2
  go_ret3
  exact HR.out
end Go.Proofs.YticfcjmlphhpgabGreatDoor
