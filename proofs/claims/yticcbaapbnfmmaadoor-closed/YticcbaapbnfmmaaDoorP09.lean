import Derived.Test.YticcbaapbnfmmaaDoorProg
import Derived.Test.YticcbaapbnfmmaaDoorP03
import Derived.Test.YticcbaapbnfmmaaDoorP04
import Derived.Test.YticcbaapbnfmmaaDoorP07
import Derived.Test.YticcbaapbnfmmaaDoorP08
import Derived.Shelf.SlIter.Nil
import Derived.Shelf.SortM.Plain
import Derived.Shelf.SortM.SortNone
namespace Go.Proofs.YticcbaapbnfmmaaDoor
open Go.RowKit

theorem pre_dataV (s : ByteArray) : (pre s).data.toList = preL s.data.toList := by
  unfold pre preL; rw [Lib.extract_data]; simp [cut]
theorem nam_dataV (s : ByteArray) : (nam s).data.toList = namL s.data.toList := by
  unfold nam namL; rw [Lib.extract_data]
  unfold cut
  rw [List.take_of_length_le (by simp)]
theorem prefixIn_dataV (s : ByteArray) : (prefixIn s).data.toList = pin s.data.toList := by
  unfold prefixIn pin
  split
  · rfl
  · rw [data_appendV]
theorem isNameB_ne (l : Bs) (h : isNameB l = true) : l ≠ [] := fun e => by subst e; exact absurd h (by decide)

def Rel (ds : List (ByteArray × ByteArray)) (D : List (Bs × Bs)) : Prop := ds.map (fun d => (d.1.data.toList, d.2.data.toList)) = D.map (fun d => (pin d.1, d.2))
theorem Rel.len {ds : List (ByteArray × ByteArray)} {D : List (Bs × Bs)} (h : Rel ds D) : ds.length = D.length := by
  have := congrArg List.length h; simpa using this
theorem Rel.get {ds : List (ByteArray × ByteArray)} {D : List (Bs × Bs)} (h : Rel ds D) (i : Nat) (hi : i < ds.length) : ∃ d la, D[i]? = some (d, la) ∧ ds[i].1.data.toList = pin d ∧ ds[i].2.data.toList = la := by
  have hi' : i < D.length := by rw [← h.len]; exact hi
  refine ⟨D[i].1, D[i].2, List.getElem?_eq_getElem hi', ?_⟩
  have e := congrArg (fun l => l[i]?) h
  simp only [List.getElem?_map, List.getElem?_eq_getElem hi, List.getElem?_eq_getElem hi', Option.map_some, Option.some.injEq, Prod.mk.injEq] at e
  exact e
theorem above_someV : ∀ (ds : List (ByteArray × ByteArray)) (p : ByteArray) (a : Nat), above ds p = a + 1 → ∃ h : a < ds.length, ds[a].1 = p
  | [], p, a, h => by cases h
  | d :: r, p, a, h => by
    simp only [above] at h
    split at h
    · rename_i h0
      obtain rfl : a = 0 := by omega
      exact ⟨by simp, h0⟩
    · split at h
      · cases h
      · obtain ⟨b, rfl⟩ : ∃ b, a = b + 1 := ⟨a - 1, by omega⟩
        obtain ⟨hb, he⟩ := above_someV r p b (by omega)
        exact ⟨by simpa using hb, he⟩
theorem notAbove_eq (n l : ByteArray) : notAbove n l = !(bl l.data.toList n.data.toList) := by
  unfold notAbove
  rw [ByteArray.toList_eq, ByteArray.toList_eq]
  exact not_bl _ _

/-- What the document asks of a node that is not the root, but for how many there are and what it holds. -/
def Cond (l : List Nd) (x : Nd) : Prop :=
  np x ≠ [] ∧ (np x).head? ≠ some 47 ∧ isNameB (namL (np x)) = true ∧ depthL (np x) ≤ 5 ∧ scan (dirL (np x)) (namL (np x)) l = some true

theorem rel_new (ds : List (ByteArray × ByteArray)) (D : List (Bs × Bs)) (h : Rel ds D) (a : Nat) (ha : a < ds.length) (d : Bs) (hd : ds[a].1.data.toList = pin d) (x : Nd) :
    Rel (enterL ((ds.take (a + 1)).set a (ds[a].1, nam x.path)) x.path x.kind) (newD D a d (namL (np x)) x) := by
  have e1 : (ds.take (a + 1)).set a (ds[a].1, nam x.path) = ds.take a ++ [(ds[a].1, nam x.path)] := by
    rw [List.take_succ_eq_append_getElem ha]
    have hl : (ds.take a).length = a := by rw [List.length_take]; omega
    rw [List.set_append_right _ _ (by omega), hl, Nat.sub_self]
    rfl
  have e2 : (ds.take a).map (fun d => (d.1.data.toList, d.2.data.toList)) = (D.take a).map (fun d => (pin d.1, d.2)) := by
    rw [List.map_take, List.map_take, h]
  rw [e1]
  unfold Rel enterL newD
  split
  · rw [List.map_append, List.map_append, List.map_append, List.map_append, e2]
    simp [hd, nam_dataV, prefixIn_dataV, np]
  · rw [List.map_append, List.append_nil, List.map_append, e2]
    simp [hd, nam_dataV, np]

theorem place_yes (ds : List (ByteArray × ByteArray)) (D : List (Bs × Bs)) (l : List Nd) (hI : OInv l D) (hR : Rel ds D) (x : Nd) (ds' : List (ByteArray × ByteArray)) (h : placeRest ds x.path x.kind = some ds') :
    Cond l x ∧ ∃ D', OInv (l ++ [x]) D' ∧ Rel ds' D' := by
  unfold placeRest at h
  simp only at h
  split at h
  · cases h
  · rename_i h1
    split at h
    · cases h
    · rename_i h2
      split at h
      · cases h
      · rename_i h3
        obtain ⟨a, ha⟩ : ∃ a, above ds (pre x.path) = a + 1 := ⟨above ds (pre x.path) - 1, by omega⟩
        obtain ⟨hal, hap⟩ := above_someV ds _ a ha
        obtain ⟨d, la, hD, hd1, hd2⟩ := hR.get a hal
        rw [ha] at h h1 h3
        simp only [Nat.add_sub_cancel] at h h3
        have hgD : ds.getD a (⟨#[]⟩, ⟨#[]⟩) = ds[a] := by simp [List.getD, hal]
        rw [hgD] at h h3
        have hnm : isNameB (namL (np x)) = true := by
          rw [nam_dataV] at h2
          cases hh : isNameB (namL x.path.data.toList) with
          | true => exact hh
          | false => exact absurd hh h2
        have hne := isNameB_ne _ hnm
        have h47 := namL_no (np x)
        have hpx : np x = pin d ++ namL (np x) := by
          conv => lhs; rw [← split_eq (np x)]
          rw [← hd1, hap, pre_dataV]
          rfl
        have hlt : bl la (namL (np x)) = true := by
          rw [notAbove_eq, hd2, nam_dataV] at h3
          cases hh : bl la (namL (np x)) with
          | true => rfl
          | false => exact absurd (by rw [show namL x.path.data.toList = namL (np x) from rfl, hh]; rfl) h3
        have hdir : dirL (np x) = d := by conv => lhs; rw [hpx]
                                          exact dirL_path d _ h47
        refine ⟨⟨?_, ?_, hnm, ?_, ?_⟩, newD D a d (namL (np x)) x, hI.step x a d la _ hD hpx hne h47 hlt, ?_⟩
        · rw [hpx]; simp [hne]
        · by_cases hdn : d = []
          · rw [hpx, hdn, pin_nil, List.nil_append]
            intro hh
            exact h47 (List.mem_of_mem_head? (by rw [hh]; rfl))
          · have := hI.head hD
            rw [hpx, pin_ne d hdn]
            cases d with
            | nil => exact absurd rfl hdn
            | cons c t => simpa using this
        · unfold depthL
          rw [if_neg (by rw [hpx]; simp [hne])]
          have : (np x).count 47 = a := by
            conv => lhs; rw [hpx]
            rw [List.count_append, hI.depth a d la hD, List.count_eq_zero.2 h47]; rfl
          omega
        · rw [hdir]
          exact (hI.yes a d la hD _ hne).2 hlt
        · cases h
          exact rel_new ds D hR a hal d hd1 x

theorem place_no (ds : List (ByteArray × ByteArray)) (D : List (Bs × Bs)) (l : List Nd) (hI : OInv l D) (hR : Rel ds D) (x : Nd) (hc : Cond l x) : placeRest ds x.path x.kind ≠ none := by
  obtain ⟨h1, h2, h3, h4, h5⟩ := hc
  obtain ⟨i, d, la, hD, hd⟩ : ∃ (i : Nat) (d la : Bs), D[i]? = some (d, la) ∧ d = dirL (np x) := by
    by_cases hh : ∃ (i : Nat) (d la : Bs), D[i]? = some (d, la) ∧ d = dirL (np x)
    · exact hh
    · exact absurd h5 (hI.no _ _ (fun i d la hD e => hh ⟨i, d, la, hD, e⟩))
  have hne := isNameB_ne _ h3
  have hpre := preL_dir (np x) h2
  have hi : i < ds.length := by rw [hR.len]; exact (List.getElem?_eq_some_iff.1 hD).1
  have hsame : ∀ j (hj : j < ds.length), ds[j].1 = pre x.path ↔ j = i := fun j hj => by
    obtain ⟨d', la', hD', hd1, _⟩ := hR.get j hj
    refine ⟨fun e => ?_, fun e => ?_⟩
    · rw [e, pre_dataV] at hd1
      have : pin d' = pin d := by rw [← hd1, hd]; exact hpre
      have := pin_inj _ _ this
      subst this
      exact hI.inj hD' hD
    · subst e
      rw [hD] at hD'
      cases hD'
      exact WideShapes.bytes_inj (by rw [hd1, pre_dataV, hd]; exact hpre.symm)
  have hab : above ds (pre x.path) = i + 1 := above_at ds _ i hi ((hsame i hi).2 rfl) (fun j hj hlt e => by have := (hsame j hj).1 e; omega)
  obtain ⟨d', la', hD', hd1, hd2⟩ := hR.get i hi
  rw [hD] at hD'
  cases hD'
  have hdep : i + 1 ≤ 5 := by
    have hpx : np x = pin d ++ namL (np x) := by
      conv => lhs; rw [← split_eq (np x)]
      rw [hpre, hd]
    unfold depthL at h4
    rw [if_neg h1] at h4
    have : (np x).count 47 = i := by
      conv => lhs; rw [hpx]
      rw [List.count_append, hI.depth i d la hD, List.count_eq_zero.2 (namL_no _)]; rfl
    omega
  have hlt : bl la (namL (np x)) = true := (hI.yes i d la hD _ hne).1 (by rw [hd]; exact h5)
  unfold placeRest
  simp only [hab]
  rw [if_neg (by omega), if_neg (by rw [nam_dataV]; intro e; rw [show namL x.path.data.toList = namL (np x) from rfl, h3] at e; cases e)]
  simp only [Nat.add_sub_cancel]
  have hgD : ds.getD i (⟨#[]⟩, ⟨#[]⟩) = ds[i] := by simp [List.getD, hi]
  rw [hgD, if_neg (by rw [notAbove_eq, hd2, nam_dataV, show namL x.path.data.toList = namL (np x) from rfl, hlt]; decide)]
  simp

def condB (l : List Nd) (x : Nd) : Bool := !((np x).isEmpty || (np x).head? == some 47 || !(isNameB (namL (np x))) || decide (5 < depthL (np x))) && (scan (dirL (np x)) (namL (np x)) l == some true)
theorem condB_iff (l : List Nd) (x : Nd) : condB l x = true ↔ Cond l x := by
  unfold condB Cond
  simp only [Bool.and_eq_true, Bool.not_eq_true', Bool.or_eq_false_iff, beq_iff_eq, decide_eq_false_iff_not, Bool.not_eq_false', Nat.not_lt, beq_eq_false_iff_ne, List.isEmpty_eq_false_iff, and_assoc]
/-- Is the node behind l right, if those of l are? -/
def rightB (l : List Nd) (x : Nd) : Bool := decide (l.length < 30) && fits x.kind x.data.data.toList && (if l = [] then (np x).isEmpty else condB l x)
def wrongGo (l : List Nd) : List Nd → Option Nat
  | [] => none
  | x :: r => if rightB l x = true then wrongGo (l ++ [x]) r else some l.length
def refWrong (ns : List Nd) : Option Nat := if ns = [] then some 0 else wrongGo [] ns

theorem fw_rest : ∀ (rest l : List Nd) (ds : List (ByteArray × ByteArray)) (D : List (Bs × Bs)), l ≠ [] → OInv l D → Rel ds D → fwGo l.length ds rest = wrongGo l rest
  | [], l, ds, D, _, _, _ => rfl
  | x :: r, l, ds, D, hl, hI, hR => by
    have hl0 : ¬ l.length = 0 := fun e => hl (List.eq_nil_of_length_eq_zero e)
    simp only [fwGo, wrongGo, rightB, if_neg hl]
    by_cases h1 : l.length < 30
    · by_cases h2 : fits x.kind x.data.data.toList = true
      · rw [if_pos ⟨h1, h2⟩, if_neg hl0, decide_eq_true h1, h2]
        simp only [Bool.true_and]
        cases hp : placeRest ds x.path x.kind with
        | some ds' =>
          obtain ⟨hc, D', hI', hR'⟩ := place_yes ds D l hI hR x ds' hp
          rw [if_pos ((condB_iff l x).2 hc)]
          have := fw_rest r (l ++ [x]) ds' D' (by simp) hI' hR'
          simpa using this
        | none =>
          rw [if_neg (fun h => place_no ds D l hI hR x ((condB_iff l x).1 h) hp)]
      · rw [if_neg (fun h => h2 h.2)]
        have : fits x.kind x.data.data.toList = false := by simpa using h2
        rw [this]
        simp
    · rw [if_neg (fun h => h1 h.1), decide_eq_false h1]
      simp
theorem inv_root (x : Nd) (hx : np x = []) : OInv [x] (if x.kind = 4 then [([], [])] else []) := by
  by_cases hk : x.kind = 4
  · rw [if_pos hk]
    refine ⟨?_, ?_, ?_, ?_, ?_⟩
    · intro d la h; simp at h; exact h.1
    · intro i d la d' la' _ h; simp at h
    · intro i d la h name hn
      cases i with
      | succ i => simp at h
      | zero =>
        simp at h
        obtain ⟨rfl, rfl⟩ := h
        rw [show scan ([] : Bs) name [x] = some true by simp [scan, stepS, hx, hk]]
        exact ⟨fun _ => bl_empty name hn, fun _ => rfl⟩
    · intro dir name hno
      have hd : ([] : Bs) ≠ dir := hno 0 [] [] rfl
      have : scan dir name [x] = some false := by simp [scan, stepS, hx, hd]
      rw [this]; simp
    · intro y hy i d la h c hc
      rw [List.mem_singleton] at hy
      subst hy
      cases i with
      | succ i => simp at h
      | zero =>
        simp at h
        obtain ⟨rfl, rfl⟩ := h
        rw [hx] at hc
        simp [firstC, pin_nil] at hc
        exact .inl hc
  · rw [if_neg hk]
    refine ⟨?_, ?_, ?_, ?_, ?_⟩
    · intro d la h; simp at h
    · intro i d la d' la' h; simp at h
    · intro i d la h; simp at h
    · intro dir name _
      have : scan dir name [x] = some false := by simp [scan, stepS, hk]
      rw [this]; simp
    · intro y _ i d la h; simp at h
theorem rel_root (x : Nd) (hx : np x = []) : Rel (enterL [] x.path x.kind) (if x.kind = 4 then [([], [])] else []) := by
  unfold Rel enterL
  split
  · have : (prefixIn x.path).data.toList = [] := by rw [prefixIn_dataV, show x.path.data.toList = [] from hx]; rfl
    simp [this, pin_nil]
  · rfl
/-- THE PROGRAM's FIRST WRONG NODE IS THE DOCUMENT's. -/
theorem firstW_eq (ns : List Nd) : firstW ns = refWrong ns := by
  unfold firstW refWrong
  cases ns with
  | nil => rfl
  | cons x r =>
    rw [if_neg (by simp), if_neg (by simp)]
    simp only [fwGo, wrongGo, rightB, List.length_nil, if_true]
    by_cases h2 : fits x.kind x.data.data.toList = true
    · rw [if_pos ⟨by omega, h2⟩, h2]
      by_cases hp : x.path.toList.isEmpty = true
      · have hx : np x = [] := by rw [ByteArray.toList_eq] at hp; exact List.isEmpty_iff.1 hp
        rw [if_pos hp, hx]
        have := fw_rest r [x] _ _ (by simp) (inv_root x hx) (rel_root x hx)
        simpa using this
      · have hx : (np x).isEmpty = false := by rw [ByteArray.toList_eq] at hp; simpa [np] using hp
        rw [if_neg hp, hx]
        simp
    · rw [if_neg (fun h => h2 h.2)]
      have : fits x.kind x.data.data.toList = false := by simpa using h2
      rw [this]
      simp
end Go.Proofs.YticcbaapbnfmmaaDoor
namespace Go.Proofs.YticcbaapbnfmmaaDoor
open Go.RowKit Go.Maps

theorem own_sl {w : World} {base size n : Nat} {e : TypeId} {v : Value} {xs : List Value} (h : w.ownsRow base e size v n xs) : ∃ a cap, v = .slice a n cap ∧ n ≤ cap := by
  rcases h.2 with ⟨rfl, rfl⟩ | ⟨g, cap, _, hv, _, _, hn, _⟩
  · exact ⟨_, _, rfl, Nat.le_refl _⟩
  · exact ⟨_, cap, hv, hn⟩
theorem own_strs {w : World} {B : Nat} {v : Value} {ss : List ByteArray} (h : w.ownsRow B 9 1 v ss.length (ss.map Value.string)) : SliceS w v ss := by
  rcases h.2 with ⟨hv, h0⟩ | ⟨g, cap, cur, hv, hg1, hg2, hg3, hg4, hg5, hg6⟩
  · have : ss = [] := List.eq_nil_of_length_eq_zero h0
    subst this
    exact ⟨none, 0, hv, by simp, fun h => by simp at h⟩
  · have hlt := lt_of_block hg2
    refine ⟨_, cap, hv, hg3, fun _ => ⟨g, 0, rfl, hlt, fun j hj => ?_⟩⟩
    subst hv
    rw [Nat.zero_add]
    exact (h.cellAt j (by omega)).trans (by simp [hj])
def lackS (S : List Ent) (p r : ByteArray) : Bool := !decide (r = p) && (findS S r).isNone
/-- Insert: the error, and the store behind it. -/
def insertF (S : List Ent) (x : Ent) : Int × List Ent :=
  if isPathB x.path.data.toList = false then (11, S)
  else if (firstW x.nodes).isSome = true then (1, S)
  else if riseL x.refs = false then (7, S)
  else if x.refs.any (lackS S x.path) = true then (13, S)
  else putS S x
theorem packRes_some {ns : List Nd} {k : Nat} (h : firstW ns = some k) : packRes ns = #[.string ⟨#[]⟩, .int .i64 1, .int .i64 (k : Int)] := by unfold packRes; rw [h]
theorem packRes_none {ns : List Nd} (h : firstW ns = none) : packRes ns = #[.string (packB ns), .int .i64 0, .int .i64 0] := by unfold packRes; rw [h]; rfl
theorem EntsAt.none {w : World} {L : List (Bs × Value)} {S : List Ent} (h : EntsAt w L S) (p : ByteArray) : (findK L p.data.toList).isNone = (findS S p).isNone := by
  have := h.find p
  cases hf : findS S p with
  | none => rw [hf] at this; simp only at this; rw [this]; rfl
  | some e => rw [hf] at this; obtain ⟨a, n, c, h1, _⟩ := this; rw [h1]; rfl

end Go.Proofs.YticcbaapbnfmmaaDoor
namespace Go.Proofs.YticcbaapbnfmmaaDoor
open Go.RowKit Go.Maps Go.Sort

theorem own_base {w : World} {B B' e s n : Nat} {v : Value} {xs : List Value} (h : w.ownsRow B e s v n xs) (hB : B' ≤ B) : w.ownsRow B' e s v n xs := by
  obtain ⟨h1, h2⟩ := h
  refine ⟨h1, ?_⟩
  rcases h2 with h2 | ⟨g, cap, cur, hv, hg, r⟩
  · exact .inl h2
  · exact .inr ⟨g, cap, cur, hv, Nat.le_trans hB hg, r⟩
/-- Entries that rise by their paths. -/
def Rising (S : List Ent) : Prop := S.Pairwise fun a b => bl a.path.data.toList b.path.data.toList = true
theorem insS_mem {x y : Ent} : ∀ {S : List Ent}, y ∈ insS x S → y = x ∨ y ∈ S
  | [], h => by simp [insS] at h; exact .inl h
  | z :: r, h => by
    have e2 : insS x (z :: r) = if bytesBefore x.path.data.toList z.path.data.toList = true then x :: z :: r else z :: insS x r := rfl
    rw [e2] at h
    split at h
    · rcases List.mem_cons.1 h with h | h
      · exact .inl h
      · exact .inr h
    · rcases List.mem_cons.1 h with h | h
      · exact .inr (by rw [h]; exact List.mem_cons_self)
      · rcases insS_mem h with h | h
        · exact .inl h
        · exact .inr (List.mem_cons_of_mem _ h)
theorem Rising.ins {x : Ent} : ∀ {S : List Ent}, Rising S → findS S x.path = none → Rising (insS x S)
  | [], _, _ => List.pairwise_singleton _ _
  | z :: r, h, hf => by
    obtain ⟨h1, h2⟩ := List.pairwise_cons.1 h
    have e2 : insS x (z :: r) = if bytesBefore x.path.data.toList z.path.data.toList = true then x :: z :: r else z :: insS x r := rfl
    rw [e2]
    unfold findS at hf
    rw [List.find?_cons] at hf
    have hne : (z.path.data.toList == x.path.data.toList) = false := by
      cases hb : z.path.data.toList == x.path.data.toList with
      | true => rw [hb] at hf; cases hf
      | false => rfl
    rw [hne] at hf
    split
    · rename_i hb
      rw [before_less] at hb
      refine List.pairwise_cons.2 ⟨fun y hy => ?_, h⟩
      rcases List.mem_cons.1 hy with rfl | hy
      · exact hb
      · exact bl_trans _ _ _ hb (h1 y hy)
    · rename_i hb
      rw [before_less] at hb
      have hzx : bl z.path.data.toList x.path.data.toList = true := by
        rcases bl_tri z.path.data.toList x.path.data.toList with h | h | h
        · exact h
        · exact absurd h (by simpa using hne)
        · exact absurd h hb
      refine List.pairwise_cons.2 ⟨fun y hy => ?_, Rising.ins h2 hf⟩
      rcases insS_mem hy with rfl | hy
      · exact hzx
      · exact h1 y hy
end Go.Proofs.YticcbaapbnfmmaaDoor
