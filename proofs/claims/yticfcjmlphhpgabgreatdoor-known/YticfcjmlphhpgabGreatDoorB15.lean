import Derived.Test.YticfcjmlphhpgabGreatDoorProg
import Derived.Test.YticfcjmlphhpgabGreatDoorB02
import Derived.Test.YticfcjmlphhpgabGreatDoorB03
import Derived.Test.YticfcjmlphhpgabGreatDoorB14
import Derived.Shelf.SlIter.Nil
import Derived.Shelf.SortM.Plain
import Derived.Shelf.SortM.SortNone
namespace Go.Proofs.YticfcjmlphhpgabGreatDoor
open Go.RowKit

theorem pre_dataV (s : ByteArray) : (pre s).data.toList = preL s.data.toList := by
  unfold pre preL; rw [Lib.extract_data]; simp [cut]
theorem nam_dataV (s : ByteArray) : (nam s).data.toList = namL s.data.toList := by
  unfold nam namL; rw [Lib.extract_data]
  unfold cut
  rw [List.take_of_length_le (by simp)]
theorem prefixIn_dataV (s : ByteArray) : (prefixIn s).data.toList = pin s.data.toList := by
  unfold prefixIn pin
  split
  · rfl
  · rw [data_appendV]
theorem isNameB_ne (l : Bs) (h : isNameB l = true) : l ≠ [] := fun e => by subst e; exact absurd h (by decide)

def Rel (ds : List (ByteArray × ByteArray)) (D : List (Bs × Bs)) : Prop := ds.map (fun d => (d.1.data.toList, d.2.data.toList)) = D.map (fun d => (pin d.1, d.2))
theorem Rel.len {ds : List (ByteArray × ByteArray)} {D : List (Bs × Bs)} (h : Rel ds D) : ds.length = D.length := by
  have := congrArg List.length h; simpa using this
theorem Rel.get {ds : List (ByteArray × ByteArray)} {D : List (Bs × Bs)} (h : Rel ds D) (i : Nat) (hi : i < ds.length) : ∃ d la, D[i]? = some (d, la) ∧ ds[i].1.data.toList = pin d ∧ ds[i].2.data.toList = la := by
  have hi' : i < D.length := by rw [← h.len]; exact hi
  refine ⟨D[i].1, D[i].2, List.getElem?_eq_getElem hi', ?_⟩
  have e := congrArg (fun l => l[i]?) h
  simp only [List.getElem?_map, List.getElem?_eq_getElem hi, List.getElem?_eq_getElem hi', Option.map_some, Option.some.injEq, Prod.mk.injEq] at e
  exact e
theorem above_someV : ∀ (ds : List (ByteArray × ByteArray)) (p : ByteArray) (a : Nat), above ds p = a + 1 → ∃ h : a < ds.length, ds[a].1 = p
  | [], p, a, h => by cases h
  | d :: r, p, a, h => by
    simp only [above] at h
    split at h
    · rename_i h0
      obtain rfl : a = 0 := by omega
      exact ⟨by simp, h0⟩
    · split at h
      · cases h
      · obtain ⟨b, rfl⟩ : ∃ b, a = b + 1 := ⟨a - 1, by omega⟩
        obtain ⟨hb, he⟩ := above_someV r p b (by omega)
        exact ⟨by simpa using hb, he⟩
theorem notAbove_eq (n l : ByteArray) : notAbove n l = !(bl l.data.toList n.data.toList) := by
  unfold notAbove
  rw [ByteArray.toList_eq, ByteArray.toList_eq]
  exact not_bl _ _

/-- What the document asks of a node that is not the root, but for how many there are and what it holds. -/
def Cond (l : List Nd) (x : Nd) : Prop :=
  np x ≠ [] ∧ (np x).head? ≠ some 47 ∧ isNameB (namL (np x)) = true ∧ depthL (np x) ≤ 5 ∧ scan (dirL (np x)) (namL (np x)) l = some true

theorem rel_new (ds : List (ByteArray × ByteArray)) (D : List (Bs × Bs)) (h : Rel ds D) (a : Nat) (ha : a < ds.length) (d : Bs) (hd : ds[a].1.data.toList = pin d) (x : Nd) :
    Rel (enterL ((ds.take (a + 1)).set a (ds[a].1, nam x.path)) x.path x.kind) (newD D a d (namL (np x)) x) := by
  have e1 : (ds.take (a + 1)).set a (ds[a].1, nam x.path) = ds.take a ++ [(ds[a].1, nam x.path)] := by
    rw [List.take_succ_eq_append_getElem ha]
    have hl : (ds.take a).length = a := by rw [List.length_take]; omega
    rw [List.set_append_right _ _ (by omega), hl, Nat.sub_self]
    rfl
  have e2 : (ds.take a).map (fun d => (d.1.data.toList, d.2.data.toList)) = (D.take a).map (fun d => (pin d.1, d.2)) := by
    rw [List.map_take, List.map_take, h]
  rw [e1]
  unfold Rel enterL newD
  split
  · rw [List.map_append, List.map_append, List.map_append, List.map_append, e2]
    simp [hd, nam_dataV, prefixIn_dataV, np]
  · rw [List.map_append, List.append_nil, List.map_append, e2]
    simp [hd, nam_dataV, np]

theorem place_yes (ds : List (ByteArray × ByteArray)) (D : List (Bs × Bs)) (l : List Nd) (hI : OInv l D) (hR : Rel ds D) (x : Nd) (ds' : List (ByteArray × ByteArray)) (h : placeRest ds x.path x.kind = some ds') :
    Cond l x ∧ ∃ D', OInv (l ++ [x]) D' ∧ Rel ds' D' := by
  unfold placeRest at h
  simp only at h
  split at h
  · cases h
  · rename_i h1
    split at h
    · cases h
    · rename_i h2
      split at h
      · cases h
      · rename_i h3
        obtain ⟨a, ha⟩ : ∃ a, above ds (pre x.path) = a + 1 := ⟨above ds (pre x.path) - 1, by omega⟩
        obtain ⟨hal, hap⟩ := above_someV ds _ a ha
        obtain ⟨d, la, hD, hd1, hd2⟩ := hR.get a hal
        rw [ha] at h h1 h3
        simp only [Nat.add_sub_cancel] at h h3
        have hgD : ds.getD a (⟨#[]⟩, ⟨#[]⟩) = ds[a] := by simp [List.getD, hal]
        rw [hgD] at h h3
        have hnm : isNameB (namL (np x)) = true := by
          rw [nam_dataV] at h2
          cases hh : isNameB (namL x.path.data.toList) with
          | true => exact hh
          | false => exact absurd hh h2
        have hne := isNameB_ne _ hnm
        have h47 := namL_no (np x)
        have hpx : np x = pin d ++ namL (np x) := by
          conv => lhs; rw [← split_eq (np x)]
          rw [← hd1, hap, pre_dataV]
          rfl
        have hlt : bl la (namL (np x)) = true := by
          rw [notAbove_eq, hd2, nam_dataV] at h3
          cases hh : bl la (namL (np x)) with
          | true => rfl
          | false => exact absurd (by rw [show namL x.path.data.toList = namL (np x) from rfl, hh]; rfl) h3
        have hdir : dirL (np x) = d := by conv => lhs; rw [hpx]
                                          exact dirL_path d _ h47
        refine ⟨⟨?_, ?_, hnm, ?_, ?_⟩, newD D a d (namL (np x)) x, hI.step x a d la _ hD hpx hne h47 hlt, ?_⟩
        · rw [hpx]; simp [hne]
        · by_cases hdn : d = []
          · rw [hpx, hdn, pin_nil, List.nil_append]
            intro hh
            exact h47 (List.mem_of_mem_head? (by rw [hh]; rfl))
          · have := hI.head hD
            rw [hpx, pin_ne d hdn]
            cases d with
            | nil => exact absurd rfl hdn
            | cons c t => simpa using this
        · unfold depthL
          rw [if_neg (by rw [hpx]; simp [hne])]
          have : (np x).count 47 = a := by
            conv => lhs; rw [hpx]
            rw [List.count_append, hI.depth a d la hD, List.count_eq_zero.2 h47]; rfl
          omega
        · rw [hdir]
          exact (hI.yes a d la hD _ hne).2 hlt
        · cases h
          exact rel_new ds D hR a hal d hd1 x

theorem place_no (ds : List (ByteArray × ByteArray)) (D : List (Bs × Bs)) (l : List Nd) (hI : OInv l D) (hR : Rel ds D) (x : Nd) (hc : Cond l x) : placeRest ds x.path x.kind ≠ none := by
  obtain ⟨h1, h2, h3, h4, h5⟩ := hc
  obtain ⟨i, d, la, hD, hd⟩ : ∃ (i : Nat) (d la : Bs), D[i]? = some (d, la) ∧ d = dirL (np x) := by
    by_cases hh : ∃ (i : Nat) (d la : Bs), D[i]? = some (d, la) ∧ d = dirL (np x)
    · exact hh
    · exact absurd h5 (hI.no _ _ (fun i d la hD e => hh ⟨i, d, la, hD, e⟩))
  have hne := isNameB_ne _ h3
  have hpre := preL_dir (np x) h2
  have hi : i < ds.length := by rw [hR.len]; exact (List.getElem?_eq_some_iff.1 hD).1
  have hsame : ∀ j (hj : j < ds.length), ds[j].1 = pre x.path ↔ j = i := fun j hj => by
    obtain ⟨d', la', hD', hd1, _⟩ := hR.get j hj
    refine ⟨fun e => ?_, fun e => ?_⟩
    · rw [e, pre_dataV] at hd1
      have : pin d' = pin d := by rw [← hd1, hd]; exact hpre
      have := pin_inj _ _ this
      subst this
      exact hI.inj hD' hD
    · subst e
      rw [hD] at hD'
      cases hD'
      exact WideShapes.bytes_inj (by rw [hd1, pre_dataV, hd]; exact hpre.symm)
  have hab : above ds (pre x.path) = i + 1 := above_at ds _ i hi ((hsame i hi).2 rfl) (fun j hj hlt e => by have := (hsame j hj).1 e; omega)
  obtain ⟨d', la', hD', hd1, hd2⟩ := hR.get i hi
  rw [hD] at hD'
  cases hD'
  have hdep : i + 1 ≤ 5 := by
    have hpx : np x = pin d ++ namL (np x) := by
      conv => lhs; rw [← split_eq (np x)]
      rw [hpre, hd]
    unfold depthL at h4
    rw [if_neg h1] at h4
    have : (np x).count 47 = i := by
      conv => lhs; rw [hpx]
      rw [List.count_append, hI.depth i d la hD, List.count_eq_zero.2 (namL_no _)]; rfl
    omega
  have hlt : bl la (namL (np x)) = true := (hI.yes i d la hD _ hne).1 (by rw [hd]; exact h5)
  unfold placeRest
  simp only [hab]
  rw [if_neg (by omega), if_neg (by rw [nam_dataV]; intro e; rw [show namL x.path.data.toList = namL (np x) from rfl, h3] at e; cases e)]
  simp only [Nat.add_sub_cancel]
  have hgD : ds.getD i (⟨#[]⟩, ⟨#[]⟩) = ds[i] := by simp [List.getD, hi]
  rw [hgD, if_neg (by rw [notAbove_eq, hd2, nam_dataV, show namL x.path.data.toList = namL (np x) from rfl, hlt]; decide)]
  simp

def condB (l : List Nd) (x : Nd) : Bool := !((np x).isEmpty || (np x).head? == some 47 || !(isNameB (namL (np x))) || decide (5 < depthL (np x))) && (scan (dirL (np x)) (namL (np x)) l == some true)
theorem condB_iff (l : List Nd) (x : Nd) : condB l x = true ↔ Cond l x := by
  unfold condB Cond
  simp only [Bool.and_eq_true, Bool.not_eq_true', Bool.or_eq_false_iff, beq_iff_eq, decide_eq_false_iff_not, Bool.not_eq_false', Nat.not_lt, beq_eq_false_iff_ne, List.isEmpty_eq_false_iff, and_assoc]
/-- Is the node behind l right, if those of l are? -/
def rightB (l : List Nd) (x : Nd) : Bool := decide (l.length < 30) && fits x.kind x.data.data.toList && (if l = [] then (np x).isEmpty else condB l x)
def wrongGo (l : List Nd) : List Nd → Option Nat
  | [] => none
  | x :: r => if rightB l x = true then wrongGo (l ++ [x]) r else some l.length
def refWrong (ns : List Nd) : Option Nat := if ns = [] then some 0 else wrongGo [] ns

theorem fw_rest : ∀ (rest l : List Nd) (ds : List (ByteArray × ByteArray)) (D : List (Bs × Bs)), l ≠ [] → OInv l D → Rel ds D → fwGo l.length ds rest = wrongGo l rest
  | [], l, ds, D, _, _, _ => rfl
  | x :: r, l, ds, D, hl, hI, hR => by
    have hl0 : ¬ l.length = 0 := fun e => hl (List.eq_nil_of_length_eq_zero e)
    simp only [fwGo, wrongGo, rightB, if_neg hl]
    by_cases h1 : l.length < 30
    · by_cases h2 : fits x.kind x.data.data.toList = true
      · rw [if_pos ⟨h1, h2⟩, if_neg hl0, decide_eq_true h1, h2]
        simp only [Bool.true_and]
        cases hp : placeRest ds x.path x.kind with
        | some ds' =>
          obtain ⟨hc, D', hI', hR'⟩ := place_yes ds D l hI hR x ds' hp
          rw [if_pos ((condB_iff l x).2 hc)]
          have := fw_rest r (l ++ [x]) ds' D' (by simp) hI' hR'
          simpa using this
        | none =>
          rw [if_neg (fun h => place_no ds D l hI hR x ((condB_iff l x).1 h) hp)]
      · rw [if_neg (fun h => h2 h.2)]
        have : fits x.kind x.data.data.toList = false := by simpa using h2
        rw [this]
        simp
    · rw [if_neg (fun h => h1 h.1), decide_eq_false h1]
      simp
theorem inv_root (x : Nd) (hx : np x = []) : OInv [x] (if x.kind = 4 then [([], [])] else []) := by
  by_cases hk : x.kind = 4
  · rw [if_pos hk]
    refine ⟨?_, ?_, ?_, ?_, ?_⟩
    · intro d la h; simp at h; exact h.1
    · intro i d la d' la' _ h; simp at h
    · intro i d la h name hn
      cases i with
      | succ i => simp at h
      | zero =>
        simp at h
        obtain ⟨rfl, rfl⟩ := h
        rw [show scan ([] : Bs) name [x] = some true by simp [scan, stepS, hx, hk]]
        exact ⟨fun _ => bl_empty name hn, fun _ => rfl⟩
    · intro dir name hno
      have hd : ([] : Bs) ≠ dir := hno 0 [] [] rfl
      have : scan dir name [x] = some false := by simp [scan, stepS, hx, hd]
      rw [this]; simp
    · intro y hy i d la h c hc
      rw [List.mem_singleton] at hy
      subst hy
      cases i with
      | succ i => simp at h
      | zero =>
        simp at h
        obtain ⟨rfl, rfl⟩ := h
        rw [hx] at hc
        simp [firstC, pin_nil] at hc
        exact .inl hc
  · rw [if_neg hk]
    refine ⟨?_, ?_, ?_, ?_, ?_⟩
    · intro d la h; simp at h
    · intro i d la d' la' h; simp at h
    · intro i d la h; simp at h
    · intro dir name _
      have : scan dir name [x] = some false := by simp [scan, stepS, hk]
      rw [this]; simp
    · intro y _ i d la h; simp at h
theorem rel_root (x : Nd) (hx : np x = []) : Rel (enterL [] x.path x.kind) (if x.kind = 4 then [([], [])] else []) := by
  unfold Rel enterL
  split
  · have : (prefixIn x.path).data.toList = [] := by rw [prefixIn_dataV, show x.path.data.toList = [] from hx]; rfl
    simp [this, pin_nil]
  · rfl
/-- THE PROGRAM's FIRST WRONG NODE IS THE DOCUMENT's. -/
theorem firstW_eq (ns : List Nd) : firstW ns = refWrong ns := by
  unfold firstW refWrong
  cases ns with
  | nil => rfl
  | cons x r =>
    rw [if_neg (by simp), if_neg (by simp)]
    simp only [fwGo, wrongGo, rightB, List.length_nil, if_true]
    by_cases h2 : fits x.kind x.data.data.toList = true
    · rw [if_pos ⟨by omega, h2⟩, h2]
      by_cases hp : x.path.toList.isEmpty = true
      · have hx : np x = [] := by rw [ByteArray.toList_eq] at hp; exact List.isEmpty_iff.1 hp
        rw [if_pos hp, hx]
        have := fw_rest r [x] _ _ (by simp) (inv_root x hx) (rel_root x hx)
        simpa using this
      · have hx : (np x).isEmpty = false := by rw [ByteArray.toList_eq] at hp; simpa [np] using hp
        rw [if_neg hp, hx]
        simp
    · rw [if_neg (fun h => h2 h.2)]
      have : fits x.kind x.data.data.toList = false := by simpa using h2
      rw [this]
      simp
end Go.Proofs.YticfcjmlphhpgabGreatDoor
namespace Go.Proofs.YticfcjmlphhpgabGreatDoor
open Go.RowKit Go.Maps

theorem own_sl {w : World} {base size n : Nat} {e : TypeId} {v : Value} {xs : List Value} (h : w.ownsRow base e size v n xs) : ∃ a cap, v = .slice a n cap ∧ n ≤ cap := by
  rcases h.2 with ⟨rfl, rfl⟩ | ⟨g, cap, _, hv, _, _, hn, _⟩
  · exact ⟨_, _, rfl, Nat.le_refl _⟩
  · exact ⟨_, cap, hv, hn⟩
theorem own_strs {w : World} {B : Nat} {v : Value} {ss : List ByteArray} (h : w.ownsRow B 9 1 v ss.length (ss.map Value.string)) : SliceS w v ss := by
  rcases h.2 with ⟨hv, h0⟩ | ⟨g, cap, cur, hv, hg1, hg2, hg3, hg4, hg5, hg6⟩
  · have : ss = [] := List.eq_nil_of_length_eq_zero h0
    subst this
    exact ⟨none, 0, hv, by simp, fun h => by simp at h⟩
  · have hlt := lt_of_block hg2
    refine ⟨_, cap, hv, hg3, fun _ => ⟨g, 0, rfl, hlt, fun j hj => ?_⟩⟩
    subst hv
    rw [Nat.zero_add]
    exact (h.cellAt j (by omega)).trans (by simp [hj])
def lackS (S : List Ent) (p r : ByteArray) : Bool := !decide (r = p) && (findS S r).isNone
/-- Insert: the error, and the store behind it. -/
def insertF (S : List Ent) (x : Ent) : Int × List Ent :=
  if isPathB x.path.data.toList = false then (11, S)
  else if (firstW x.nodes).isSome = true then (1, S)
  else if riseL x.refs = false then (7, S)
  else if x.refs.any (lackS S x.path) = true then (13, S)
  else putS S x
theorem packRes_some {ns : List Nd} {k : Nat} (h : firstW ns = some k) : packRes ns = #[.string ⟨#[]⟩, .int .i64 1, .int .i64 (k : Int)] := by unfold packRes; rw [h]
theorem packRes_none {ns : List Nd} (h : firstW ns = none) : packRes ns = #[.string (packB ns), .int .i64 0, .int .i64 0] := by unfold packRes; rw [h]; rfl
theorem EntsAt.none {w : World} {L : List (Bs × Value)} {S : List Ent} (h : EntsAt w L S) (p : ByteArray) : (findK L p.data.toList).isNone = (findS S p).isNone := by
  have := h.find p
  cases hf : findS S p with
  | none => rw [hf] at this; simp only at this; rw [this]; rfl
  | some e => rw [hf] at this; obtain ⟨a, n, c, h1, _⟩ := this; rw [h1]; rfl

end Go.Proofs.YticfcjmlphhpgabGreatDoor
namespace Go.Proofs
open Go.Shelf
def Tryz.keys71_ren : Go.Shelf.Ren := ⟨fun | 7 => 46 | 10 => 73 | n => n, fun | 23 => 60 | 26 => 9 | 3 => 74 | 28 => 101 | 0 => 0 | 27 => 100 | 33 => 67 | 4 => 4 | n => n, fun | n => n⟩
theorem Tryz.keys71 : Go.Proofs.SlLaysZ.n7 Tryz.prog Tryz.keys71_ren := {
  mixed := by kernel_rfl
  f7 := ⟨Tryz.f46.name, by decide, Tryz.func46.trans (congrArg some (by kernel_rfl))⟩
  f10 := ⟨Tryz.f73.name, by decide, Tryz.func73.trans (congrArg some (by kernel_rfl))⟩
  t0 := Tryz.underlying0
  a0 := Tryz.isAgg0
  z0 := Tryz.sizeOf0
  v0 := Tryz.zeroValue0
  t4 := Tryz.underlying4
  a4 := Tryz.isAgg4
  z4 := Tryz.sizeOf4
  v4 := Tryz.zeroValue4
  t23 := Tryz.underlying60
  a23 := Tryz.isAgg60
  z23 := Tryz.sizeOf60
  v23 := Tryz.zeroValue60
  t26 := Tryz.underlying9
  a26 := Tryz.isAgg9
  z26 := Tryz.sizeOf9
  v26 := Tryz.zeroValue9
  t27 := Tryz.underlying100
  a27 := Tryz.isAgg100
  z27 := Tryz.sizeOf100
  v27 := Tryz.zeroValue100
  t28 := Tryz.underlying101
  a28 := Tryz.isAgg101
  z28 := Tryz.sizeOf101
  v28 := Tryz.zeroValue101
  t33 := Tryz.underlying67
  a33 := Tryz.isAgg67
  z33 := Tryz.sizeOf67
  v33 := Tryz.zeroValue67 }
def Tryz.sorted70_ren : Go.Shelf.Ren := ⟨fun | 6 => 45 | 8 => 71 | 9 => 72 | 11 => 92 | 13 => 94 | 12 => 93 | 23 => 116 | 24 => 117 | 14 => 107 | 15 => 108 | 16 => 109 | 17 => 110 | 18 => 111 | 19 => 112 | 20 => 113 | 21 => 114 | 22 => 115 | 25 => 128 | 26 => 129 | 27 => 130 | 28 => 131 | 29 => 132 | 30 => 133 | 31 => 141 | n => n, fun | 26 => 9 | 28 => 101 | 24 => 23 | 0 => 0 | 3 => 3 | 37 => 138 | 48 => 179 | 50 => 108 | 4 => 4 | 40 => 173 | 39 => 172 | 45 => 110 | 5 => 5 | 9 => 9 | 51 => 185 | 55 => 189 | 57 => 198 | 58 => 199 | 33 => 67 | n => n, fun | n => n⟩
theorem Tryz.sorted70 : Go.Proofs.SlLaysZ.n6 Tryz.prog Tryz.sorted70_ren := {
  mixed := by kernel_rfl
  f6 := ⟨Tryz.f45.name, by decide, Tryz.func45.trans (congrArg some (by kernel_rfl))⟩
  f8 := ⟨Tryz.f71.name, by decide, Tryz.func71.trans (congrArg some (by kernel_rfl))⟩
  f11 := ⟨Tryz.f92.name, by decide, Tryz.func92.trans (congrArg some (by kernel_rfl))⟩
  t0 := Tryz.underlying0
  a0 := Tryz.isAgg0
  z0 := Tryz.sizeOf0
  v0 := Tryz.zeroValue0
  t24 := Tryz.underlying23
  a24 := Tryz.isAgg23
  z24 := Tryz.sizeOf23
  v24 := Tryz.zeroValue23
  t26 := Tryz.underlying9
  a26 := Tryz.isAgg9
  z26 := Tryz.sizeOf9
  v26 := Tryz.zeroValue9
  t28 := Tryz.underlying101
  a28 := Tryz.isAgg101
  z28 := Tryz.sizeOf101
  v28 := Tryz.zeroValue101
  i26 := by kernel_rfl }
def Tryz.sort101_ren : Go.Shelf.Ren := ⟨fun | 6 => 72 | 8 => 94 | 9 => 93 | 19 => 116 | 20 => 117 | 21 => 107 | 22 => 108 | 23 => 109 | 24 => 110 | 25 => 111 | 26 => 112 | 27 => 113 | 28 => 114 | 29 => 115 | 36 => 128 | 31 => 129 | 32 => 130 | 37 => 131 | 38 => 132 | 39 => 133 | 41 => 141 | n => n, fun | 27 => 23 | 29 => 9 | 3 => 3 | 32 => 138 | 26 => 23 | 0 => 0 | 44 => 179 | 46 => 108 | 4 => 4 | 36 => 173 | 35 => 172 | 41 => 110 | 5 => 5 | 9 => 9 | 53 => 185 | 57 => 189 | 63 => 198 | 64 => 199 | n => n, fun | n => n⟩
theorem Tryz.sort101 : Go.Proofs.SlLaysM.n6 Tryz.prog Tryz.sort101_ren := {
  mixed := by kernel_rfl
  f6 := ⟨Tryz.f72.name, by decide, Tryz.func72.trans (congrArg some (by kernel_rfl))⟩
  f8 := Tryz.func94.trans (congrArg some (by kernel_rfl))
  f9 := ⟨Tryz.f93.name, by decide, Tryz.func93.trans (congrArg some (by kernel_rfl))⟩
  f19 := Tryz.func116.trans (congrArg some (by kernel_rfl))
  f20 := Tryz.func117.trans (congrArg some (by kernel_rfl))
  f21 := ⟨Tryz.f107.name, by decide, Tryz.func107.trans (congrArg some (by kernel_rfl))⟩
  f22 := ⟨Tryz.f108.name, by decide, Tryz.func108.trans (congrArg some (by kernel_rfl))⟩
  f23 := ⟨Tryz.f109.name, by decide, Tryz.func109.trans (congrArg some (by kernel_rfl))⟩
  f24 := ⟨Tryz.f110.name, by decide, Tryz.func110.trans (congrArg some (by kernel_rfl))⟩
  f25 := ⟨Tryz.f111.name, by decide, Tryz.func111.trans (congrArg some (by kernel_rfl))⟩
  f26 := ⟨Tryz.f112.name, by decide, Tryz.func112.trans (congrArg some (by kernel_rfl))⟩
  f27 := ⟨Tryz.f113.name, by decide, Tryz.func113.trans (congrArg some (by kernel_rfl))⟩
  f28 := ⟨Tryz.f114.name, by decide, Tryz.func114.trans (congrArg some (by kernel_rfl))⟩
  f29 := ⟨Tryz.f115.name, by decide, Tryz.func115.trans (congrArg some (by kernel_rfl))⟩
  f31 := Tryz.func129.trans (congrArg some (by kernel_rfl))
  f32 := Tryz.func130.trans (congrArg some (by kernel_rfl))
  f36 := ⟨Tryz.f128.name, by decide, Tryz.func128.trans (congrArg some (by kernel_rfl))⟩
  f37 := ⟨Tryz.f131.name, by decide, Tryz.func131.trans (congrArg some (by kernel_rfl))⟩
  f38 := ⟨Tryz.f132.name, by decide, Tryz.func132.trans (congrArg some (by kernel_rfl))⟩
  f39 := ⟨Tryz.f133.name, by decide, Tryz.func133.trans (congrArg some (by kernel_rfl))⟩
  f41 := ⟨Tryz.f141.name, by decide, Tryz.func141.trans (congrArg some (by kernel_rfl))⟩
  t0 := Tryz.underlying0
  a0 := Tryz.isAgg0
  z0 := Tryz.sizeOf0
  v0 := Tryz.zeroValue0
  t3 := Tryz.underlying3
  a3 := Tryz.isAgg3
  z3 := Tryz.sizeOf3
  v3 := Tryz.zeroValue3
  t4 := Tryz.underlying4
  a4 := Tryz.isAgg4
  z4 := Tryz.sizeOf4
  v4 := Tryz.zeroValue4
  t5 := Tryz.underlying5
  a5 := Tryz.isAgg5
  z5 := Tryz.sizeOf5
  v5 := Tryz.zeroValue5
  t9 := Tryz.underlying9
  a9 := Tryz.isAgg9
  z9 := Tryz.sizeOf9
  v9 := Tryz.zeroValue9
  t26 := Tryz.underlying23
  a26 := Tryz.isAgg23
  z26 := Tryz.sizeOf23
  v26 := Tryz.zeroValue23
  t27 := Tryz.underlying23
  a27 := Tryz.isAgg23
  z27 := Tryz.sizeOf23
  v27 := Tryz.zeroValue23
  t29 := Tryz.underlying9
  a29 := Tryz.isAgg9
  z29 := Tryz.sizeOf9
  v29 := Tryz.zeroValue9
  t32 := Tryz.underlying138
  a32 := Tryz.isAgg138
  z32 := Tryz.sizeOf138
  v32 := Tryz.zeroValue138
  t35 := Tryz.underlying172
  a35 := Tryz.isAgg172
  z35 := Tryz.sizeOf172
  v35 := Tryz.zeroValue172
  t36 := Tryz.underlying173
  a36 := Tryz.isAgg173
  z36 := Tryz.sizeOf173
  v36 := Tryz.zeroValue173
  t41 := Tryz.underlying110
  a41 := Tryz.isAgg110
  z41 := Tryz.sizeOf110
  v41 := Tryz.zeroValue110
  t44 := Tryz.underlying179
  a44 := Tryz.isAgg179
  z44 := Tryz.sizeOf179
  v44 := Tryz.zeroValue179
  t46 := Tryz.underlying108
  a46 := Tryz.isAgg108
  z46 := Tryz.sizeOf108
  v46 := Tryz.zeroValue108
  t53 := Tryz.underlying185
  a53 := Tryz.isAgg185
  z53 := Tryz.sizeOf185
  v53 := Tryz.zeroValue185
  t57 := Tryz.underlying189
  a57 := Tryz.isAgg189
  z57 := Tryz.sizeOf189
  v57 := Tryz.zeroValue189
  t63 := Tryz.underlying198
  a63 := Tryz.isAgg198
  z63 := Tryz.sizeOf198
  v63 := Tryz.zeroValue198
  t64 := Tryz.underlying199
  a64 := Tryz.isAgg199
  z64 := Tryz.sizeOf199
  v64 := Tryz.zeroValue199 }
open Go.RowKit Go.Maps Go.Sort Go.Shelf
theorem Tryz.sorts70 (m : Nat) : AnyZ.SortsIn Tryz.prog Tryz.sorted70_ren Fence.wide m :=
  ⟨fun blk off cap ss W hH hblk hsz => callsIn_wide.2 (AnyM.slices_Sort_string Tryz.sort101 blk off cap ss W hH hblk hsz),
   fun p cap W => callsIn_wide.2 (AnyM.slices_Sort_string_none Tryz.sort101 p cap W)⟩

theorem Tryz.maps_Keys_71 (mb : Option Nat) (W : World) : CallsIn Fence.wide 5 Tryz.prog 46 #[.map mb] W fun e w' => e = .returned (.func (.func 73) #[] #[.pointer (some ⟨W.heap.size, 0, none⟩)]) ∧ w' = W.alloc (.cells #[.map mb] 60) :=
  AnyZ.keys_in Tryz.keys71 Fence.wide 5 trivial rfl mb W

set_option maxHeartbeats 1000000 in
theorem Tryz.slices_Sorted_keys_70_71 {H : Type} (b nn : Nat) (D0 : DataW H) (R : Value → Option (DataW H × List MemPlace)) (w : World) (hown : w.ownsMap Tryz.prog 9 R b nn D0) (hmax : Maps.size D0 ≤ maxLen) (hbytes : Maps.size D0 * 16 ≤ 140737488355328) :
    CallsIn Fence.wide 5 Tryz.prog 45 #[.func (.func 73) #[] #[.pointer (some ⟨w.heap.size, 0, none⟩)]] (w.alloc (.cells #[.map (some b)] 60)) fun e w' => ∃ (v : Value) (ss : List (List UInt8)), e = .returned v ∧ ss.Perm (strKeys D0) ∧
      w'.ownsRow (w.alloc (.cells #[.map (some b)] 60)).heap.size 9 1 v ss.length ((ss.mergeSort (fun x y => decide (x ≤ y))).map encStr) ∧ (v = .slice none 0 0 ↔ ss = []) ∧ Below (w.alloc (.cells #[.map (some b)] 60)).heap.size (w.alloc (.cells #[.map (some b)] 60)) w' := by
  have hbl := hown.lt
  have hseq : SeqGives Fence.wide 2 Tryz.prog 73 #[.pointer (some ⟨w.heap.size, 0, none⟩)] encStr (fun ss => ss.Perm (strKeys D0)) (Maps.size D0) (w.alloc (.cells #[.map (some b)] 60)) :=
    AnyZ.keys_gives (ρ := Tryz.keys71_ren) { Tryz.keys71 with } Fence.wide _ trivial rfl (by omega) w.heap.size b nn D0 _ (by simp) (by simp) (by
      obtain ⟨es, clock, hb, Ft, hs, hD⟩ := hown
      exact ⟨es, clock, (Below.heap_alloc _ _ b hbl).trans hb, Ft, hs, hD⟩)
  exact AnyZ.sorted_in Tryz.sorted70 Fence.wide 5 trivial trivial trivial trivial rfl (by omega) (Tryz.sorts70 _) (enters_of Tryz.func72 (by kernel_rfl) rfl) 73 #[.pointer (some ⟨w.heap.size, 0, none⟩)] trivial (enters_of Tryz.func73 (by kernel_rfl) rfl) _ _ hmax hbytes _ hseq

end Go.Proofs
namespace Go.Proofs.YticfcjmlphhpgabGreatDoor
open Go.RowKit Go.Maps Go.Sort

theorem own_base {w : World} {B B' e s n : Nat} {v : Value} {xs : List Value} (h : w.ownsRow B e s v n xs) (hB : B' ≤ B) : w.ownsRow B' e s v n xs := by
  obtain ⟨h1, h2⟩ := h
  refine ⟨h1, ?_⟩
  rcases h2 with h2 | ⟨g, cap, cur, hv, hg, r⟩
  · exact .inl h2
  · exact .inr ⟨g, cap, cur, hv, Nat.le_trans hB hg, r⟩
/-- Entries that rise by their paths. -/
def Rising (S : List Ent) : Prop := S.Pairwise fun a b => bl a.path.data.toList b.path.data.toList = true
theorem insS_mem {x y : Ent} : ∀ {S : List Ent}, y ∈ insS x S → y = x ∨ y ∈ S
  | [], h => by simp [insS] at h; exact .inl h
  | z :: r, h => by
    have e2 : insS x (z :: r) = if bytesBefore x.path.data.toList z.path.data.toList = true then x :: z :: r else z :: insS x r := rfl
    rw [e2] at h
    split at h
    · rcases List.mem_cons.1 h with h | h
      · exact .inl h
      · exact .inr h
    · rcases List.mem_cons.1 h with h | h
      · exact .inr (by rw [h]; exact List.mem_cons_self)
      · rcases insS_mem h with h | h
        · exact .inl h
        · exact .inr (List.mem_cons_of_mem _ h)
theorem Rising.ins {x : Ent} : ∀ {S : List Ent}, Rising S → findS S x.path = none → Rising (insS x S)
  | [], _, _ => List.pairwise_singleton _ _
  | z :: r, h, hf => by
    obtain ⟨h1, h2⟩ := List.pairwise_cons.1 h
    have e2 : insS x (z :: r) = if bytesBefore x.path.data.toList z.path.data.toList = true then x :: z :: r else z :: insS x r := rfl
    rw [e2]
    unfold findS at hf
    rw [List.find?_cons] at hf
    have hne : (z.path.data.toList == x.path.data.toList) = false := by
      cases hb : z.path.data.toList == x.path.data.toList with
      | true => rw [hb] at hf; cases hf
      | false => rfl
    rw [hne] at hf
    split
    · rename_i hb
      rw [before_less] at hb
      refine List.pairwise_cons.2 ⟨fun y hy => ?_, h⟩
      rcases List.mem_cons.1 hy with rfl | hy
      · exact hb
      · exact bl_trans _ _ _ hb (h1 y hy)
    · rename_i hb
      rw [before_less] at hb
      have hzx : bl z.path.data.toList x.path.data.toList = true := by
        rcases bl_tri z.path.data.toList x.path.data.toList with h | h | h
        · exact h
        · exact absurd h (by simpa using hne)
        · exact absurd h hb
      refine List.pairwise_cons.2 ⟨fun y hy => ?_, Rising.ins h2 hf⟩
      rcases insS_mem hy with rfl | hy
      · exact hzx
      · exact h1 y hy
theorem lt_of_bl : ∀ a b : Bs, bl a b = true → a < b
  | [], [], h => by cases h
  | [], _ :: _, _ => List.nil_lt_cons _ _
  | _ :: _, [], h => by cases h
  | a :: r, b :: s, h => by
    rw [bl_cons] at h
    rcases Bool.or_eq_true_iff.1 h with h | h
    · exact List.cons_lt_cons_iff.2 (.inl (of_decide_eq_true h))
    · obtain ⟨h1, h2⟩ := Bool.and_eq_true_iff.1 h
      exact List.cons_lt_cons_iff.2 (.inr ⟨by simpa using h1, lt_of_bl r s h2⟩)
theorem strKeys_mapD (L : List (Bs × Value)) : strKeys (mapD L) = L.map (·.1) := by
  show (L.map fun e => (Lit.string e.1, DataW.held e.2)).map (fun p : Lit × DataW Value => strOf p.1) = _
  rw [List.map_map]
  rfl
theorem EntsAt.keys {w : World} : ∀ {L : List (Bs × Value)} {S : List Ent}, EntsAt w L S → L.map (·.1) = S.map fun e => e.path.data.toList
  | [], [], _ => rfl
  | _ :: _, _ :: _, h => by rw [List.map_cons, List.map_cons, h.1.1, h.2.keys]
  | [], _ :: _, h => h.elim
  | _ :: _, [], h => h.elim
theorem sort_rising {S : List Ent} (h : Rising S) : (S.map fun e => e.path.data.toList).mergeSort (fun x y => decide (x ≤ y)) = S.map fun e => e.path.data.toList := by
  refine List.mergeSort_of_pairwise ?_
  rw [List.pairwise_map]
  exact h.imp fun hb => decide_eq_true (List.le_of_lt (lt_of_bl _ _ hb))
theorem encStr_paths (S : List Ent) : (S.map fun e => e.path.data.toList).map encStr = (S.map (·.path)).map Value.string := by
  rw [List.map_map, List.map_map]; rfl

set_option maxRecDepth 20000 in
set_option maxHeartbeats 1000000 in
theorem Paths_any (b : Nat) (S : List Ent) (w : World) (h : PSt w b S) (hR : Rising S) (hS : S.length ≤ 1000) :
    Calls Tryz.prog 25 #[.map (some b)] w fun e w' => ∃ v, e = .returned v ∧ w'.ownsRow w.heap.size 9 1 v S.length ((S.map (·.path)).map Value.string) ∧ Below w.heap.size w w' := by
  obtain ⟨L, h1, h2⟩ := h
  have hlen := h2.length
  have cK := hide (callsIn_wide.1 (Tryz.maps_Keys_71 (some b) w))
  have cS := hide (callsIn_wide.1 (Tryz.slices_Sorted_keys_70_71 b L.length (mapD L) rawR w h1 (by rw [size_mapD]; unfold maxLen; omega) (by rw [size_mapD]; omega)))
  have hkeys : strKeys (mapD L) = S.map fun e => e.path.data.toList := (strKeys_mapD L).trans h2.keys
  have HK := hide hkeys
  clear h1 h2 hkeys
  go_enter Tryz.func25, Tryz.ntmps25
  go_wp2_with fail
  refine cK.out.mono ?_
  rintro e w1 ⟨rfl, rfl⟩
  go_wp2_with fail
  refine cS.out.mono ?_
  rintro e w2 ⟨v, ss, rfl, hperm, hrow, hnil, hb⟩
  rw [HK.out] at hperm
  have hsort : ss.mergeSort (fun x y => decide (x ≤ y)) = S.map fun e => e.path.data.toList := (mergeSort_of_perm hperm).trans (sort_rising hR)
  rw [hsort, encStr_paths] at hrow
  have hlen2 : ss.length = S.length := by rw [hperm.length_eq, List.length_map]
  rw [hlen2] at hrow
  have hb' : Below w.heap.size w w2 := ((Below.refl _ w).alloc (Nat.le_refl _) _).trans (hb.mono (by simp))
  clear hnil hperm hsort
  go_wp2
  go_ret
  exact ⟨_, rfl, own_base hrow (by simp), hb'⟩
end Go.Proofs.YticfcjmlphhpgabGreatDoor
