/-
  MATHEMATICS, 9: the program's first wrong node is the document's.
-/
import Derived.Test.YticfcjmlphhpgaaDoorM8
import Derived.Test.YticfcjmlphhpgaaDoorW5
import Derived.Test.YticfcjmlphhpgaaDoorW8
namespace Go.Proofs.YticfcjmlphhpgaaDoor
open Go.RowKit

theorem pre_dataV (s : ByteArray) : (pre s).data.toList = preL s.data.toList := by
  unfold pre preL; rw [Lib.extract_data]; simp [cut]
theorem nam_dataV (s : ByteArray) : (nam s).data.toList = namL s.data.toList := by
  unfold nam namL; rw [Lib.extract_data]
  unfold cut
  rw [List.take_of_length_le (by simp)]
theorem dirOf_data (s : ByteArray) : (dirOf s).data.toList = dirL s.data.toList := by
  unfold dirOf dirL cut
  split
  · rfl
  · rw [Lib.extract_data]; simp
theorem prefixIn_dataV (s : ByteArray) : (prefixIn s).data.toList = pin s.data.toList := by
  unfold prefixIn pin
  split
  · rfl
  · rw [data_appendV]
theorem belowL_eq (p d : List UInt8) : belowL p d = belL p d := rfl
theorem isNameB_ne (l : Bs) (h : isNameB l = true) : l ≠ [] := fun e => by subst e; exact absurd h (by decide)

def Rel (ds : List (ByteArray × ByteArray)) (D : List (Bs × Bs)) : Prop := ds.map (fun d => (d.1.data.toList, d.2.data.toList)) = D.map (fun d => (pin d.1, d.2))
theorem Rel.len {ds : List (ByteArray × ByteArray)} {D : List (Bs × Bs)} (h : Rel ds D) : ds.length = D.length := by
  have := congrArg List.length h; simpa using this
theorem Rel.get {ds : List (ByteArray × ByteArray)} {D : List (Bs × Bs)} (h : Rel ds D) (i : Nat) (hi : i < ds.length) : ∃ d la, D[i]? = some (d, la) ∧ ds[i].1.data.toList = pin d ∧ ds[i].2.data.toList = la := by
  have hi' : i < D.length := by rw [← h.len]; exact hi
  refine ⟨D[i].1, D[i].2, List.getElem?_eq_getElem hi', ?_⟩
  have e := congrArg (fun l => l[i]?) h
  simp only [List.getElem?_map, List.getElem?_eq_getElem hi, List.getElem?_eq_getElem hi', Option.map_some, Option.some.injEq, Prod.mk.injEq] at e
  exact e
theorem above_someV : ∀ (ds : List (ByteArray × ByteArray)) (p : ByteArray) (a : Nat), above ds p = a + 1 → ∃ h : a < ds.length, ds[a].1 = p
  | [], p, a, h => by cases h
  | d :: r, p, a, h => by
    simp only [above] at h
    split at h
    · rename_i h0
      obtain rfl : a = 0 := by omega
      exact ⟨by simp, h0⟩
    · split at h
      · cases h
      · obtain ⟨b, rfl⟩ : ∃ b, a = b + 1 := ⟨a - 1, by omega⟩
        obtain ⟨hb, he⟩ := above_someV r p b (by omega)
        exact ⟨by simpa using hb, he⟩
theorem notAbove_eq (n l : ByteArray) : notAbove n l = !(bl l.data.toList n.data.toList) := by
  unfold notAbove
  rw [ByteArray.toList_eq, ByteArray.toList_eq]
  exact not_bl _ _

/-- What the document asks of a node that is not the root, but for how many there are and what it holds. -/
def Cond (l : List Nd) (x : Nd) : Prop :=
  np x ≠ [] ∧ (np x).head? ≠ some 47 ∧ isNameB (namL (np x)) = true ∧ depthL (np x) ≤ 5 ∧ scan (dirL (np x)) (namL (np x)) l = some true

theorem rel_new (ds : List (ByteArray × ByteArray)) (D : List (Bs × Bs)) (h : Rel ds D) (a : Nat) (ha : a < ds.length) (d : Bs) (hd : ds[a].1.data.toList = pin d) (x : Nd) :
    Rel (enterL ((ds.take (a + 1)).set a (ds[a].1, nam x.path)) x.path x.kind) (newD D a d (namL (np x)) x) := by
  have e1 : (ds.take (a + 1)).set a (ds[a].1, nam x.path) = ds.take a ++ [(ds[a].1, nam x.path)] := by
    rw [List.take_succ_eq_append_getElem ha]
    have hl : (ds.take a).length = a := by rw [List.length_take]; omega
    rw [List.set_append_right _ _ (by omega), hl, Nat.sub_self]
    rfl
  have e2 : (ds.take a).map (fun d => (d.1.data.toList, d.2.data.toList)) = (D.take a).map (fun d => (pin d.1, d.2)) := by
    rw [List.map_take, List.map_take, h]
  rw [e1]
  unfold Rel enterL newD
  split
  · rw [List.map_append, List.map_append, List.map_append, List.map_append, e2]
    simp [hd, nam_dataV, prefixIn_dataV, np]
  · rw [List.map_append, List.append_nil, List.map_append, e2]
    simp [hd, nam_dataV, np]

theorem place_yes (ds : List (ByteArray × ByteArray)) (D : List (Bs × Bs)) (l : List Nd) (hI : OInv l D) (hR : Rel ds D) (x : Nd) (ds' : List (ByteArray × ByteArray)) (h : placeRest ds x.path x.kind = some ds') :
    Cond l x ∧ ∃ D', OInv (l ++ [x]) D' ∧ Rel ds' D' := by
  unfold placeRest at h
  simp only at h
  split at h
  · cases h
  · rename_i h1
    split at h
    · cases h
    · rename_i h2
      split at h
      · cases h
      · rename_i h3
        obtain ⟨a, ha⟩ : ∃ a, above ds (pre x.path) = a + 1 := ⟨above ds (pre x.path) - 1, by omega⟩
        obtain ⟨hal, hap⟩ := above_someV ds _ a ha
        obtain ⟨d, la, hD, hd1, hd2⟩ := hR.get a hal
        rw [ha] at h h1 h3
        simp only [Nat.add_sub_cancel] at h h3
        have hgD : ds.getD a (⟨#[]⟩, ⟨#[]⟩) = ds[a] := by simp [List.getD, hal]
        rw [hgD] at h h3
        have hnm : isNameB (namL (np x)) = true := by
          rw [nam_dataV] at h2
          cases hh : isNameB (namL x.path.data.toList) with
          | true => exact hh
          | false => exact absurd hh h2
        have hne := isNameB_ne _ hnm
        have h47 := namL_no (np x)
        have hpx : np x = pin d ++ namL (np x) := by
          conv => lhs; rw [← split_eq (np x)]
          rw [← hd1, hap, pre_dataV]
          rfl
        have hlt : bl la (namL (np x)) = true := by
          rw [notAbove_eq, hd2, nam_dataV] at h3
          cases hh : bl la (namL (np x)) with
          | true => rfl
          | false => exact absurd (by rw [show namL x.path.data.toList = namL (np x) from rfl, hh]; rfl) h3
        have hdir : dirL (np x) = d := by conv => lhs; rw [hpx]
                                          exact dirL_path d _ h47
        refine ⟨⟨?_, ?_, hnm, ?_, ?_⟩, newD D a d (namL (np x)) x, hI.step x a d la _ hD hpx hne h47 hlt, ?_⟩
        · rw [hpx]; simp [hne]
        · by_cases hdn : d = []
          · rw [hpx, hdn, pin_nil, List.nil_append]
            intro hh
            exact h47 (List.mem_of_mem_head? (by rw [hh]; rfl))
          · have := hI.head hD
            rw [hpx, pin_ne d hdn]
            cases d with
            | nil => exact absurd rfl hdn
            | cons c t => simpa using this
        · unfold depthL
          rw [if_neg (by rw [hpx]; simp [hne])]
          have : (np x).count 47 = a := by
            conv => lhs; rw [hpx]
            rw [List.count_append, hI.depth a d la hD, List.count_eq_zero.2 h47]; rfl
          omega
        · rw [hdir]
          exact (hI.yes a d la hD _ hne).2 hlt
        · cases h
          exact rel_new ds D hR a hal d hd1 x

theorem place_no (ds : List (ByteArray × ByteArray)) (D : List (Bs × Bs)) (l : List Nd) (hI : OInv l D) (hR : Rel ds D) (x : Nd) (hc : Cond l x) : placeRest ds x.path x.kind ≠ none := by
  obtain ⟨h1, h2, h3, h4, h5⟩ := hc
  obtain ⟨i, d, la, hD, hd⟩ : ∃ (i : Nat) (d la : Bs), D[i]? = some (d, la) ∧ d = dirL (np x) := by
    by_cases hh : ∃ (i : Nat) (d la : Bs), D[i]? = some (d, la) ∧ d = dirL (np x)
    · exact hh
    · exact absurd h5 (hI.no _ _ (fun i d la hD e => hh ⟨i, d, la, hD, e⟩))
  have hne := isNameB_ne _ h3
  have hpre := preL_dir (np x) h2
  have hi : i < ds.length := by rw [hR.len]; exact (List.getElem?_eq_some_iff.1 hD).1
  have hsame : ∀ j (hj : j < ds.length), ds[j].1 = pre x.path ↔ j = i := fun j hj => by
    obtain ⟨d', la', hD', hd1, _⟩ := hR.get j hj
    refine ⟨fun e => ?_, fun e => ?_⟩
    · rw [e, pre_dataV] at hd1
      have : pin d' = pin d := by rw [← hd1, hd]; exact hpre
      have := pin_inj _ _ this
      subst this
      exact hI.inj hD' hD
    · subst e
      rw [hD] at hD'
      cases hD'
      exact WideShapes.bytes_inj (by rw [hd1, pre_dataV, hd]; exact hpre.symm)
  have hab : above ds (pre x.path) = i + 1 := above_at ds _ i hi ((hsame i hi).2 rfl) (fun j hj hlt e => by have := (hsame j hj).1 e; omega)
  obtain ⟨d', la', hD', hd1, hd2⟩ := hR.get i hi
  rw [hD] at hD'
  cases hD'
  have hdep : i + 1 ≤ 5 := by
    have hpx : np x = pin d ++ namL (np x) := by
      conv => lhs; rw [← split_eq (np x)]
      rw [hpre, hd]
    unfold depthL at h4
    rw [if_neg h1] at h4
    have : (np x).count 47 = i := by
      conv => lhs; rw [hpx]
      rw [List.count_append, hI.depth i d la hD, List.count_eq_zero.2 (namL_no _)]; rfl
    omega
  have hlt : bl la (namL (np x)) = true := (hI.yes i d la hD _ hne).1 (by rw [hd]; exact h5)
  unfold placeRest
  simp only [hab]
  rw [if_neg (by omega), if_neg (by rw [nam_dataV]; intro e; rw [show namL x.path.data.toList = namL (np x) from rfl, h3] at e; cases e)]
  simp only [Nat.add_sub_cancel]
  have hgD : ds.getD i (⟨#[]⟩, ⟨#[]⟩) = ds[i] := by simp [List.getD, hi]
  rw [hgD, if_neg (by rw [notAbove_eq, hd2, nam_dataV, show namL x.path.data.toList = namL (np x) from rfl, hlt]; decide)]
  simp

def condB (l : List Nd) (x : Nd) : Bool := !((np x).isEmpty || (np x).head? == some 47 || !(isNameB (namL (np x))) || decide (5 < depthL (np x))) && (scan (dirL (np x)) (namL (np x)) l == some true)
theorem condB_iff (l : List Nd) (x : Nd) : condB l x = true ↔ Cond l x := by
  unfold condB Cond
  simp only [Bool.and_eq_true, Bool.not_eq_true', Bool.or_eq_false_iff, beq_iff_eq, decide_eq_false_iff_not, Bool.not_eq_false', Nat.not_lt, beq_eq_false_iff_ne, List.isEmpty_eq_false_iff, and_assoc]
/-- Is the node behind l right, if those of l are? -/
def rightB (l : List Nd) (x : Nd) : Bool := decide (l.length < 30) && fits x.kind x.data.data.toList && (if l = [] then (np x).isEmpty else condB l x)
def wrongGo (l : List Nd) : List Nd → Option Nat
  | [] => none
  | x :: r => if rightB l x = true then wrongGo (l ++ [x]) r else some l.length
def refWrong (ns : List Nd) : Option Nat := if ns = [] then some 0 else wrongGo [] ns

theorem fw_rest : ∀ (rest l : List Nd) (ds : List (ByteArray × ByteArray)) (D : List (Bs × Bs)), l ≠ [] → OInv l D → Rel ds D → fwGo l.length ds rest = wrongGo l rest
  | [], l, ds, D, _, _, _ => rfl
  | x :: r, l, ds, D, hl, hI, hR => by
    have hl0 : ¬ l.length = 0 := fun e => hl (List.eq_nil_of_length_eq_zero e)
    simp only [fwGo, wrongGo, rightB, if_neg hl]
    by_cases h1 : l.length < 30
    · by_cases h2 : fits x.kind x.data.data.toList = true
      · rw [if_pos ⟨h1, h2⟩, if_neg hl0, decide_eq_true h1, h2]
        simp only [Bool.true_and]
        cases hp : placeRest ds x.path x.kind with
        | some ds' =>
          obtain ⟨hc, D', hI', hR'⟩ := place_yes ds D l hI hR x ds' hp
          rw [if_pos ((condB_iff l x).2 hc)]
          have := fw_rest r (l ++ [x]) ds' D' (by simp) hI' hR'
          simpa using this
        | none =>
          rw [if_neg (fun h => place_no ds D l hI hR x ((condB_iff l x).1 h) hp)]
      · rw [if_neg (fun h => h2 h.2)]
        have : fits x.kind x.data.data.toList = false := by simpa using h2
        rw [this]
        simp
    · rw [if_neg (fun h => h1 h.1), decide_eq_false h1]
      simp
theorem inv_root (x : Nd) (hx : np x = []) : OInv [x] (if x.kind = 4 then [([], [])] else []) := by
  by_cases hk : x.kind = 4
  · rw [if_pos hk]
    refine ⟨?_, ?_, ?_, ?_, ?_⟩
    · intro d la h; simp at h; exact h.1
    · intro i d la d' la' _ h; simp at h
    · intro i d la h name hn
      cases i with
      | succ i => simp at h
      | zero =>
        simp at h
        obtain ⟨rfl, rfl⟩ := h
        rw [show scan ([] : Bs) name [x] = some true by simp [scan, stepS, hx, hk]]
        exact ⟨fun _ => bl_empty name hn, fun _ => rfl⟩
    · intro dir name hno
      have hd : ([] : Bs) ≠ dir := hno 0 [] [] rfl
      have : scan dir name [x] = some false := by simp [scan, stepS, hx, hd]
      rw [this]; simp
    · intro y hy i d la h c hc
      rw [List.mem_singleton] at hy
      subst hy
      cases i with
      | succ i => simp at h
      | zero =>
        simp at h
        obtain ⟨rfl, rfl⟩ := h
        rw [hx] at hc
        simp [firstC, pin_nil] at hc
        exact .inl hc
  · rw [if_neg hk]
    refine ⟨?_, ?_, ?_, ?_, ?_⟩
    · intro d la h; simp at h
    · intro i d la d' la' h; simp at h
    · intro i d la h; simp at h
    · intro dir name _
      have : scan dir name [x] = some false := by simp [scan, stepS, hk]
      rw [this]; simp
    · intro y _ i d la h; simp at h
theorem rel_root (x : Nd) (hx : np x = []) : Rel (enterL [] x.path x.kind) (if x.kind = 4 then [([], [])] else []) := by
  unfold Rel enterL
  split
  · have : (prefixIn x.path).data.toList = [] := by rw [prefixIn_dataV, show x.path.data.toList = [] from hx]; rfl
    simp [this, pin_nil]
  · rfl
/-- THE PROGRAM's FIRST WRONG NODE IS THE DOCUMENT's. -/
theorem firstW_eq (ns : List Nd) : firstW ns = refWrong ns := by
  unfold firstW refWrong
  cases ns with
  | nil => rfl
  | cons x r =>
    rw [if_neg (by simp), if_neg (by simp)]
    simp only [fwGo, wrongGo, rightB, List.length_nil, if_true]
    by_cases h2 : fits x.kind x.data.data.toList = true
    · rw [if_pos ⟨by omega, h2⟩, h2]
      by_cases hp : x.path.toList.isEmpty = true
      · have hx : np x = [] := by rw [ByteArray.toList_eq] at hp; exact List.isEmpty_iff.1 hp
        rw [if_pos hp, hx]
        have := fw_rest r [x] _ _ (by simp) (inv_root x hx) (rel_root x hx)
        simpa using this
      · have hx : (np x).isEmpty = false := by rw [ByteArray.toList_eq] at hp; simpa [np] using hp
        rw [if_neg hp, hx]
        simp
    · rw [if_neg (fun h => h2 h.2)]
      have : fits x.kind x.data.data.toList = false := by simpa using h2
      rw [this]
      simp
end Go.Proofs.YticfcjmlphhpgaaDoor
