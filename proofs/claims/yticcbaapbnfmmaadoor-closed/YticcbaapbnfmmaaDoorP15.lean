import Derived.Test.YticcbaapbnfmmaaDoorP03
import Derived.Test.YticcbaapbnfmmaaDoorP05
import Derived.Test.YticcbaapbnfmmaaDoorP06
import Derived.Laws.AppendOwnNone
import Derived.Deep.CutRange
import Derived.Deep.DeepCutAuto
import Derived.Deep.CutBlock
namespace Go.Proofs.YticcbaapbnfmmaaDoor
open Go.RowKit

/-- The names that grow. -/
def nameG (n : Nat) (al : Bool) : Bs := if al then [UInt8.ofNat (97 + n), 206, 177, 32, 120] else [UInt8.ofNat (97 + n)]
def IsG (l : Bs) : Prop := ∃ n al, n < 26 ∧ l = nameG n al
set_option maxRecDepth 100000 in
theorem nameG_facts : ∀ n : Fin 26, ∀ al : Bool, isNameB (nameG n.val al) = true ∧ (47 ∈ nameG n.val al) = False ∧ isNameB (nameG n.val al ++ [10]) = false ∧ nameG n.val al ≠ [] := by
  decide +kernel
theorem IsG.name {l : Bs} (h : IsG l) : isNameB l = true ∧ ¬ (47 : UInt8) ∈ l ∧ isNameB (l ++ [10]) = false ∧ l ≠ [] := by
  obtain ⟨n, al, hn, rfl⟩ := h
  obtain ⟨h1, h2, h3, h4⟩ := nameG_facts ⟨n, hn⟩ al
  exact ⟨h1, fun h => by rw [h2] at h; exact h, h3, h4⟩
end Go.Proofs.YticcbaapbnfmmaaDoor
namespace Go.Proofs.YticcbaapbnfmmaaDoor
open Go.RowKit

def Nm (l : List Nd) : Prop := ∀ n ∈ l.tail, IsG (namL n.path.data.toList)
end Go.Proofs.YticcbaapbnfmmaaDoor
namespace Go.Proofs.YticcbaapbnfmmaaDoor
open Go.RowKit

/-- The name that stands last in a directory, by its number. -/
def LastOk (b : Bs) (z : Int) : Prop := (b = [] ∧ z = -1) ∨ ∃ (n : Nat) (al : Bool), n < 26 ∧ b = nameG n al ∧ z = n

/-- What the loop keeps: the nodes run through, the paths above stand open, the last names are numbered. -/
structure GId (l : List Nd) (ab : List ByteArray) (la : List Int) (ds : Ds) : Prop where
  run : runF 0 [] l = some ds
  nm : Nm l
  ne : l ≠ []
  len : l.length ≤ 30
  one : 1 ≤ ab.length
  five : ab.length ≤ 5
  eqn : la.length = ab.length
  le : ab.length ≤ ds.length
  at' : ∀ i (h : i < ab.length) (h' : i < la.length) (h2 : i < ds.length), ds[i].1.data.toList = pin ab[i].data.toList ∧ LastOk ds[i].2.data.toList la[i]
  grow : ∀ i j (hi : i < ab.length) (hj : j < ab.length), i < j → (pin ab[i].data.toList).length < (pin ab[j].data.toList).length
  nz : ∀ p ∈ ab, ¬ (0 : UInt8) ∈ p.data.toList
  sz : ∀ i (h : i < ab.length), ab[i].size ≤ 6 * i
  rng : ∀ z ∈ la, -1 ≤ z ∧ z ≤ 25
def GIG (l : List Nd) (ab : List ByteArray) (la : List Int) : Prop := ∃ ds, GId l ab la ds

def rootG : Nd := ⟨⟨#[]⟩, 4, ⟨#[]⟩⟩
theorem toNat97 (n : Nat) (h : n < 26) : (UInt8.ofNat (97 + n)).toNat = 97 + n := by rw [UInt8.toNat_ofNat']; omega
theorem GI_init : GIG [rootG] [⟨#[]⟩] [-1] := by
  refine ⟨[(⟨#[]⟩, ⟨#[]⟩)], ?_, ?_, by simp, by simp, by simp, by simp, rfl, by simp, ?_, ?_, ?_, ?_, ?_⟩
  · simp only [runF]
    have : stepW 0 [] rootG = some [(⟨#[]⟩, ⟨#[]⟩)] := by
      unfold stepW
      rw [if_pos ⟨by omega, by rfl⟩, if_pos rfl, if_pos (by rw [ByteArray.toList_eq]; rfl)]
      rfl
    rw [this]
  · intro n hn; cases hn
  · intro i h h' h2
    obtain rfl : i = 0 := by simp at h; exact h
    exact ⟨rfl, .inl ⟨rfl, rfl⟩⟩
  · intro i j hi hj hlt; simp at hi hj; omega
  · intro p hp; simp at hp; subst hp; simp
  · intro i h; obtain rfl : i = 0 := by simp at h; exact h
    exact Nat.le_refl 0
  · intro z hz; simp at hz; subst hz; exact ⟨by omega, by omega⟩
/-- One directory is left. -/
theorem GI_pop {l : List Nd} {ab : List ByteArray} {la : List Int} (h : GIG l ab la) (h1 : 1 < ab.length) : GIG l (ab.take (ab.length - 1)) (la.take (la.length - 1)) := by
  obtain ⟨ds, h⟩ := h
  have hl : (ab.take (ab.length - 1)).length = ab.length - 1 := by rw [List.length_take]; omega
  have hl' : (la.take (la.length - 1)).length = la.length - 1 := by rw [List.length_take]; omega
  have he := h.eqn; have h5 := h.five; have hle := h.le
  refine ⟨ds, h.run, h.nm, h.ne, h.len, by omega, by omega, by omega, by omega, ?_, ?_, ?_, ?_, ?_⟩
  · intro i h1 h2 h3
    rw [List.getElem_take, List.getElem_take]
    exact h.at' i (by omega) (by omega) h3
  · intro i j hi hj hlt
    rw [List.getElem_take, List.getElem_take]
    exact h.grow i j (by omega) (by omega) hlt
  · intro p hp; exact h.nz p (List.mem_of_mem_take hp)
  · intro i hi; rw [List.getElem_take]; exact h.sz i (by omega)
  · intro z hz; exact h.rng z (List.mem_of_mem_take hz)

theorem nameG_head (n : Nat) (al : Bool) : ∃ t, nameG n al = UInt8.ofNat (97 + n) :: t := by unfold nameG; cases al <;> exact ⟨_, rfl⟩
theorem less_name {m n : Nat} {a b : Bool} (hm : m < n) (hn : n < 26) : Op.bytesLess (nameG n a) (nameG m b) = false ∧ (nameG n a == nameG m b) = false := by
  obtain ⟨t, ht⟩ := nameG_head n a
  obtain ⟨u, hu⟩ := nameG_head m b
  have h1 := toNat97 n hn
  have h2 := toNat97 m (by omega)
  have hne : UInt8.ofNat (97 + n) ≠ UInt8.ofNat (97 + m) := fun e => by rw [← UInt8.toNat_inj, h1, h2] at e; omega
  have hlt : ¬ UInt8.ofNat (97 + n) < UInt8.ofNat (97 + m) := fun e => by rw [UInt8.lt_iff_toNat_lt, h1, h2] at e; omega
  rw [ht, hu]
  constructor
  · simp only [Op.bytesLess]
    rw [decide_eq_false hlt, beq_eq_false_iff_ne.2 hne]; rfl
  · rw [beq_eq_false_iff_ne]; intro e; exact hne (List.cons.inj e).1
theorem notAbove_name (x last : ByteArray) (n : Nat) (al : Bool) (z : Int) (hn : n < 26) (hx : x.data.toList = nameG n al) (hl : LastOk last.data.toList z) (hz : z < n) : notAbove x last = false := by
  unfold notAbove
  rw [ByteArray.toList_eq, ByteArray.toList_eq, hx]
  rcases hl with ⟨h1, _⟩ | ⟨m, a, hm, h1, h2⟩
  · rw [h1]
    obtain ⟨t, ht⟩ := nameG_head n al
    rw [ht]; rfl
  · rw [h1]
    obtain ⟨h3, h4⟩ := less_name (a := al) (b := a) (show m < n by omega) hn
    rw [h3, h4]; rfl

/-- The directories behind a node that grew. -/
theorem place_grown {l : List Nd} {ab : List ByteArray} {la : List Int} {ds : Ds} (h : GId l ab la ds) (top n : Nat) (al : Bool) (path : ByteArray) (kind : Int) (htop : top + 1 = ab.length) (hn : n < 26)
    (hz : la[top]'(by have := h.eqn; omega) < n) (hp : path.data.toList = pin (ab[top]'(by omega)).data.toList ++ nameG n al) :
    placeRest ds path kind = some (enterL ((ds.take (top + 1)).set top ((ds[top]'(by have := h.le; omega)).1, nam path)) path kind) := by
  have he := h.eqn; have h5 := h.five; have hle := h.le
  have hG : IsG (nameG n al) := ⟨n, al, hn, rfl⟩
  obtain ⟨g1, g2, _, _⟩ := hG.name
  obtain ⟨a1, a2⟩ := h.at' top (by omega) (by omega) (by omega)
  have hpre : (pre path).data.toList = pin (ab[top]'(by omega)).data.toList := by rw [pre_data, hp, preL_path _ _ g2]
  have hnam : (nam path).data.toList = nameG n al := by rw [nam_data, hp, namL_path _ _ g2]
  have hab : above ds (pre path) = top + 1 := by
    refine above_at ds _ top (by omega) ?_ ?_
    · apply ByteArray.ext; apply Array.toList_inj.1; rw [a1, hpre]
    · intro j hj hlt e
      have := (h.at' j (by omega) (by omega) (by omega)).1
      rw [e, hpre] at this
      have hg := h.grow j top (by omega) (by omega) hlt
      rw [this] at hg; omega
  have hgD : ds.getD top (⟨#[]⟩, ⟨#[]⟩) = ds[top]'(by omega) := by simp [List.getD, show top < ds.length by omega]
  unfold placeRest
  simp only [hab, Nat.add_sub_cancel, hgD]
  rw [if_neg (by omega), if_neg (by rw [hnam, g1]; simp), if_neg (by rw [notAbove_name _ _ n al _ hn hnam a2 hz]; simp)]

theorem step_grown {l : List Nd} {ab : List ByteArray} {la : List Int} {ds : Ds} (h : GId l ab la ds) (x : Nd) (hl : l.length < 30) (hf : fits x.kind x.data.data.toList = true) (ds' : Ds) (hp : placeRest ds x.path x.kind = some ds') :
    runF 0 [] (l ++ [x]) = some ds' := by
  rw [run_snoc, h.run]
  simp only [Option.bind_some, Nat.zero_add]
  unfold stepW
  have : l.length ≠ 0 := fun e => h.ne (List.eq_nil_of_length_eq_zero e)
  rw [if_pos ⟨hl, hf⟩, if_neg this, hp]
theorem nm_snoc {l : List Nd} (x : Nd) (h : Nm l) (hne : l ≠ []) (hx : IsG (namL x.path.data.toList)) : Nm (l ++ [x]) := by
  intro y hy
  cases l with
  | nil => exact absurd rfl hne
  | cons a r =>
    simp only [List.cons_append, List.tail_cons, List.mem_append, List.mem_singleton] at hy
    rcases hy with hy | rfl
    · exact h y (by simpa using hy)
    · exact hx

/-- A file or a link grew. -/
theorem GI_leaf {l : List Nd} {ab : List ByteArray} {la : List Int} (h : GIG l ab la) (top n : Nat) (al : Bool) (x : Nd) (hl : l.length < 30) (htop : top + 1 = ab.length) (hn : n < 26)
    (hz : la[top]! < (n : Int)) (hp : x.path.data.toList = pin (ab[top]!).data.toList ++ nameG n al) (hf : fits x.kind x.data.data.toList = true) (hk : x.kind ≠ 4) :
    GIG (l ++ [x]) ab (la.set top n) := by
  obtain ⟨ds, h⟩ := h
  have he := h.eqn; have h5 := h.five; have hle := h.le
  rw [getElem!_pos la top (by omega)] at hz
  rw [getElem!_pos ab top (by omega)] at hp
  have hG : IsG (nameG n al) := ⟨n, al, hn, rfl⟩
  have g2 := hG.name.2.1
  have hpl := place_grown h top n al x.path x.kind htop hn hz hp
  have hen : ∀ d, enterL d x.path x.kind = d := fun d => by unfold enterL; rw [if_neg hk]
  rw [hen] at hpl
  have hdl : ((ds.take (top + 1)).set top ((ds[top]'(by omega)).1, nam x.path)).length = top + 1 := by rw [List.length_set, List.length_take]; omega
  refine ⟨_, step_grown h x hl hf _ hpl, nm_snoc x h.nm h.ne (by rw [hp, namL_path _ _ g2]; exact hG), by simp, by simp; omega, h.one, h.five, by rw [List.length_set]; exact he, by omega, ?_, h.grow, h.nz, h.sz, ?_⟩
  · intro i h1 h2 h3
    rw [List.length_set] at h2
    by_cases hi : i = top
    · subst hi
      rw [List.getElem_set_self, List.getElem_set_self]
      exact ⟨(h.at' i h1 (by omega) (by omega)).1, .inr ⟨n, al, hn, by rw [nam_data, hp, namL_path _ _ g2], rfl⟩⟩
    · rw [List.getElem_set_ne (fun e => hi e.symm), List.getElem_set_ne (fun e => hi e.symm), List.getElem_take]
      exact h.at' i h1 (by omega) (by omega)
  · intro z hz'
    rcases List.mem_or_eq_of_mem_set hz' with hz' | rfl
    · exact h.rng z hz'
    · exact ⟨by omega, by omega⟩
/-- A directory grew. -/
theorem GI_dir {l : List Nd} {ab : List ByteArray} {la : List Int} (h : GIG l ab la) (top n : Nat) (al : Bool) (path : ByteArray) (hl : l.length < 30) (htop : top + 1 = ab.length) (hn : n < 26)
    (hz : la[top]! < (n : Int)) (hp : path.data.toList = pin (ab[top]!).data.toList ++ nameG n al) (h4 : ab.length ≤ 4) :
    GIG (l ++ [⟨path, 4, ⟨#[]⟩⟩]) (ab ++ [path]) (la.set top n ++ [-1]) := by
  obtain ⟨ds, h⟩ := h
  have he := h.eqn; have h5 := h.five; have hle := h.le
  rw [getElem!_pos la top (by omega)] at hz
  rw [getElem!_pos ab top (by omega)] at hp
  have hG : IsG (nameG n al) := ⟨n, al, hn, rfl⟩
  have g2 := hG.name.2.1
  have gne := hG.name.2.2.2
  have hpl := place_grown h top n al path 4 htop hn hz hp
  have hen : ∀ d, enterL d path 4 = d ++ [(prefixIn path, ⟨#[]⟩)] := fun d => by unfold enterL; rw [if_pos rfl]
  rw [hen] at hpl
  have hdl : ((ds.take (top + 1)).set top ((ds[top]'(by omega)).1, nam path)).length = top + 1 := by rw [List.length_set, List.length_take]; omega
  have hpn : path.data.toList ≠ [] := by rw [hp]; simp [gne]
  have hgl : (nameG n al).length ≤ 5 := by unfold nameG; split <;> simp
  have hst := step_grown h ⟨path, 4, ⟨#[]⟩⟩ hl rfl _ hpl
  have hpin : (pin path.data.toList).length = (pin (ab[top]'(by omega)).data.toList).length + (nameG n al).length + 1 := by rw [pin_ne _ hpn, hp]; simp; omega
  have hpsz : path.size ≤ 6 * (top + 1) := by
    rw [size_of_data hp, List.length_append]
    have := h.sz top (by omega)
    have h2 : (pin (ab[top]'(by omega)).data.toList).length ≤ (ab[top]'(by omega)).size + 1 := by
      rw [size_of_data (s := ab[top]'(by omega)) rfl]; unfold pin; split <;> simp
    omega
  refine ⟨_, hst, nm_snoc _ h.nm h.ne (by show IsG (namL path.data.toList); rw [hp, namL_path _ _ g2]; exact hG), by simp, by simp; omega, by simp, by simp; omega, by simp [he], by rw [List.length_append, List.length_append, hdl]; simp; omega, ?_, ?_, ?_, ?_, ?_⟩
  · intro i h1 h2 h3
    by_cases hlast : i = top + 1
    · subst hlast
      rw [List.getElem_append_right (by omega), List.getElem_append_right (by omega), List.getElem_append_right (by rw [List.length_set]; omega)]
      simp only [List.getElem_singleton]
      exact ⟨prefixIn_data _, .inl ⟨rfl, rfl⟩⟩
    · have hi1 : i < ab.length := by simp at h1; omega
      have hi2 : i < (la.set top (n : Int)).length := by rw [List.length_set]; omega
      rw [List.getElem_append_left (by omega), List.getElem_append_left hi1, List.getElem_append_left hi2]
      by_cases hi : i = top
      · subst hi
        rw [List.getElem_set_self, List.getElem_set_self]
        exact ⟨(h.at' i hi1 (by omega) (by omega)).1, .inr ⟨n, al, hn, by rw [nam_data, hp, namL_path _ _ g2], rfl⟩⟩
      · rw [List.getElem_set_ne (fun e => hi e.symm), List.getElem_set_ne (fun e => hi e.symm), List.getElem_take]
        exact h.at' i hi1 (by omega) (by omega)
  · intro i j hi hj hlt
    by_cases hlast : j = top + 1
    · subst hlast
      have hi1 : i < ab.length := by omega
      rw [List.getElem_append_left hi1, List.getElem_append_right (by omega)]
      simp only [List.getElem_singleton]
      rw [hpin]
      by_cases hit : i = top
      · subst hit; omega
      · have := h.grow i top hi1 (by omega) (by omega); omega
    · have hj1 : j < ab.length := by simp at hj; omega
      rw [List.getElem_append_left (by omega), List.getElem_append_left hj1]
      exact h.grow i j (by omega) hj1 hlt
  · intro p hpm
    rcases List.mem_append.1 hpm with hpm | hpm
    · exact h.nz p hpm
    · rw [List.mem_singleton] at hpm; subst hpm
      rw [hp]
      intro hm
      have hgz : ¬ (0 : UInt8) ∈ nameG n al := by
        have h97 : UInt8.ofNat (97 + n) ≠ 0 := fun e => by rw [← UInt8.toNat_inj, toNat97 n hn] at e; simp at e
        unfold nameG
        generalize UInt8.ofNat (97 + n) = c at h97
        split <;> simp [Ne.symm h97]
      rcases List.mem_append.1 hm with hm | hm
      · have h0 := h.nz _ (List.getElem_mem (show top < ab.length by omega))
        unfold pin at hm
        split at hm
        · cases hm
        · rcases List.mem_append.1 hm with hm | hm
          · exact h0 hm
          · simp at hm
      · exact hgz hm
  · intro i hi
    by_cases hlast : i = top + 1
    · subst hlast
      rw [List.getElem_append_right (by omega)]
      simp only [List.getElem_singleton]
      exact hpsz
    · have hi1 : i < ab.length := by simp at hi; omega
      rw [List.getElem_append_left hi1]; exact h.sz i hi1
  · intro z hz'
    rcases List.mem_append.1 hz' with hz' | hz'
    · rcases List.mem_or_eq_of_mem_set hz' with hz' | rfl
      · exact h.rng z hz'
      · exact ⟨by omega, by omega⟩
    · rw [List.mem_singleton] at hz'; subst hz'; exact ⟨by omega, by omega⟩
/-- A tree of one leaf bears little. -/
def Lone (l : List Nd) : Prop := ∀ k d, l = [⟨⟨#[]⟩, k, d⟩] → k ≠ 4 → d.size < 3
theorem Lone.of {l : List Nd} {ds : Ds} (h : runF 0 [] l = some ds) (hd : 0 < ds.length) : Lone l := by
  rintro k d rfl hk
  simp only [runF] at h
  cases hs : stepW 0 [] ⟨⟨#[]⟩, k, d⟩ with
  | none => rw [hs] at h; cases h
  | some Dy =>
    rw [hs] at h
    have hr : some Dy = some ds := h
    injection hr with hr
    subst hr
    unfold stepW at hs
    split at hs
    · rw [if_pos rfl] at hs
      split at hs
      · injection hs with hs
        subst hs
        unfold enterL at hd
        rw [if_neg hk] at hd
        exact absurd hd (Nat.lt_irrefl 0)
      · cases hs
    · cases hs
end Go.Proofs.YticcbaapbnfmmaaDoor
namespace Go.Proofs.YticcbaapbnfmmaaDoor
open Go.RowKit

theorem own_neG {w : World} {B B' : Nat} {e e' : TypeId} {s s' : Nat} {v v' : Value} {n n' : Nat} {xs xs' : List Value} (h : w.ownsRow B e s v n xs) (h' : w.ownsRow B' e' s' v' n' xs') (hne : e ≠ e') : v.ownBlock = none ∨ v.ownBlock ≠ v'.ownBlock := by
  cases hv : v.ownBlock with
  | none => exact .inl rfl
  | some g =>
    right
    intro e2
    obtain ⟨c, fz, hc⟩ := own_kind h g hv
    obtain ⟨c', fz', hc'⟩ := own_kind h' g e2.symm
    rw [hc] at hc'
    injection hc' with hc'
    injection hc' with _ hc' _
    exact hne hc'
/-- The nodes, the paths above, the last numbers. -/
structure GW (w0 w : World) (vl va vt : Value) (l : List Nd) (ab : List ByteArray) (la : List Int) : Prop where
  rl : w.ownsRow w0.heap.size 45 3 vl l.length (flat3 l)
  ra : w.ownsRow w0.heap.size 9 1 va ab.length (ab.map .string)
  rt : w.ownsRow w0.heap.size 3 1 vt la.length (la.map (.int .i64))
  bel : Below w0.heap.size w0 w
theorem GW.alloc {w0 w : World} {vl va vt : Value} {l : List Nd} {ab : List ByteArray} {la : List Int} (h : GW w0 w vl va vt l ab la) (o : Obj) : GW w0 (w.alloc o) vl va vt l ab la :=
  ⟨h.rl.alloc o, h.ra.alloc o, h.rt.alloc o, h.bel.alloc h.bel.size o⟩
theorem GW.kept {w0 w w' : World} {vl va vt : Value} {l : List Nd} {ab : List ByteArray} {la : List Int} (h : GW w0 w vl va vt l ab la) (hb : Below w.heap.size w w') : GW w0 w' vl va vt l ab la :=
  ⟨own_below h.rl hb, own_below h.ra hb, own_below h.rt hb, h.bel.trans (hb.mono h.bel.size)⟩
theorem GW.newL {w0 w w' : World} {vl va vt vl' : Value} {l l' : List Nd} {ab : List ByteArray} {la : List Int} (h : GW w0 w vl va vt l ab la) (hg : w.grownBy w' vl.ownBlock) (hn : w'.ownsRow w0.heap.size 45 3 vl' l'.length (flat3 l')) : GW w0 w' vl' va vt l' ab la :=
  ⟨hn, h.ra.kept hg (own_neG h.ra h.rl (by decide)), h.rt.kept hg (own_neG h.rt h.rl (by decide)), h.bel.grown hg h.bel.size (fun k hk => (h.rl.lt k hk).1)⟩
theorem GW.newA {w0 w w' : World} {vl va vt va' : Value} {l : List Nd} {ab ab' : List ByteArray} {la : List Int} (h : GW w0 w vl va vt l ab la) (hg : w.grownBy w' va.ownBlock) (hn : w'.ownsRow w0.heap.size 9 1 va' ab'.length (ab'.map .string)) : GW w0 w' vl va' vt l ab' la :=
  ⟨h.rl.kept hg (own_neG h.rl h.ra (by decide)), hn, h.rt.kept hg (own_neG h.rt h.ra (by decide)), h.bel.grown hg h.bel.size (fun k hk => (h.ra.lt k hk).1)⟩
theorem GW.newT {w0 w w' : World} {vl va vt vt' : Value} {l : List Nd} {ab : List ByteArray} {la la' : List Int} (h : GW w0 w vl va vt l ab la) (hg : w.grownBy w' vt.ownBlock) (hn : w'.ownsRow w0.heap.size 3 1 vt' la'.length (la'.map (.int .i64))) : GW w0 w' vl va vt' l ab la' :=
  ⟨h.rl.kept hg (own_neG h.rl h.rt (by decide)), h.ra.kept hg (own_neG h.ra h.rt (by decide)), hn, h.bel.grown hg h.bel.size (fun k hk => (h.rt.lt k hk).1)⟩
/-- One of the paths above is left. -/
theorem GW.pop {w0 w : World} {vl : Value} {g cap g' cap' : Nat} {l : List Nd} {ab : List ByteArray} {la : List Int} (h : GW w0 w vl (.slice (some ⟨g, 0, none⟩) ab.length cap) (.slice (some ⟨g', 0, none⟩) la.length cap') l ab la) (m : Nat) (hm : m ≤ ab.length) (hm' : m ≤ la.length) :
    GW w0 w vl (.slice (some ⟨g, 0, none⟩) m cap) (.slice (some ⟨g', 0, none⟩) m cap') l (ab.take m) (la.take m) := by
  have h1 := own_take h.ra hm
  have h2 := own_take h.rt hm'
  rw [Nat.mul_one, ← List.map_take] at h1 h2
  have e1 : (ab.take m).length = m := by rw [List.length_take]; omega
  have e2 : (la.take m).length = m := by rw [List.length_take]; omega
  exact ⟨h.rl, by rw [e1]; exact h1, by rw [e2]; exact h2, h.bel⟩
/-- The last number is set. -/
theorem GW.setLast {w0 w : World} {vl va : Value} {g cap : Nat} {l : List Nd} {ab : List ByteArray} {la : List Int} (h : GW w0 w vl va (.slice (some ⟨g, 0, none⟩) la.length cap) l ab la) (top : Nat) (z : Int) :
    GW w0 (w.setCell ⟨g, top, none⟩ (.int .i64 z)) vl va (.slice (some ⟨g, 0, none⟩) la.length cap) l ab (la.set top z) := by
  obtain ⟨h1, h2⟩ := h.rt.stored top (.int .i64 z)
  refine h.newT h2 ?_
  rw [List.length_set, List.map_set]
  exact h1
end Go.Proofs.YticcbaapbnfmmaaDoor
namespace Go.Proofs.YticcbaapbnfmmaaDoor
open Go.RowKit

/-- What grown answers. -/
structure Tree (l : List Nd) : Prop where
  run : ∃ ds, runF 0 [] l = some ds
  nm : Nm l
  ne : l ≠ []
  len : l.length ≤ 30
  small : ∀ n ∈ l, n.path.size ≤ 20000 ∧ n.data.size ≤ 20000
  lone : Lone l
theorem Tryd.info3 : (Tryd.prog.info? 3).map (fun i => (i.zero, i.size, i.bytes)) = some (some (.int .i64 0), 1, 8) := by kernel_rfl
theorem tree_one (s : ByteArray) (hs : s.size < 3) : Tree [⟨⟨#[]⟩, 1, s⟩] := by
  refine ⟨⟨[], ?_⟩, (fun n hn => by cases hn), by simp, by simp, fun n hn => ?_, fun k d e _ => ?_⟩
  · have hf : fits 1 s.data.toList = true := by
      unfold fits; rw [if_neg (by decide), if_pos (.inl rfl)]
      have : s.data.toList.length = s.size := by simp
      exact decide_eq_true (by omega)
    simp only [runF]
    have : stepW 0 [] ⟨⟨#[]⟩, 1, s⟩ = some [] := by
      unfold stepW
      rw [if_pos ⟨by omega, hf⟩, if_pos rfl, if_pos (by rw [ByteArray.toList_eq]; rfl)]
      rfl
    rw [this]
  · simp at hn; subst hn; exact ⟨Nat.zero_le _, by simp only; omega⟩
  · simp at e; rw [← e.2]; exact hs

theorem own_one (w : World) (B : Nat) (e : TypeId) (cur : Array Value) (hB : B ≤ w.heap.size) : (w.alloc (.cells cur e)).ownsRow B e cur.size (.slice (some ⟨w.heap.size, 0, none⟩) 1 1) 1 cur.toList := by
  refine ⟨by simp, .inr ⟨w.heap.size, 1, cur, rfl, hB, block_new w _, Nat.le_refl _, by simp [maxLen], by simp, by rw [Nat.one_mul]; exact List.take_of_length_le (by simp)⟩⟩
theorem own_at {w : World} {B : Nat} {e : TypeId} {s n m g : Nat} {cap : Nat} {xs : List Value} (h : w.ownsRow B e s (.slice (some ⟨g, 0, none⟩) n cap) n xs) (e2 : g = m) : w.ownsRow B e s (.slice (some ⟨m, 0, none⟩) n cap) n xs := by subst e2; exact h

theorem conv_oneG (W : World) (x : Int) (h0 : 0 ≤ x) (h1 : x < 26) : (convert 34 9 (.slice (some ⟨W.heap.size, 0, none⟩) 1 1)).run Tryd.prog (W.alloc (.cells #[.int .u8 (97 + x)] 5)) = .ok (.string ⟨#[UInt8.ofNat (97 + x).toNat]⟩) (W.alloc (.cells #[.int .u8 (97 + x)] 5)) := by
  refine run_convert_bytes_back (P := Tryd.prog) _ 34 9 5 ⟨W.heap.size, 0, none⟩ 1 [UInt8.ofNat (97 + x).toNat] Tryd.underlying34 Tryd.underlying5 Tryd.underlying9 (fun j hj => ?_)
  simp at hj
  subst hj
  have h : (UInt8.ofNat (97 + x).toNat).toNat = (97 + x).toNat := by rw [UInt8.toNat_ofNat']; omega
  have e : ((⟨W.heap.size, 0, none⟩ : Addr).add 0) = ⟨W.heap.size, 0, none⟩ := rfl
  simp only [List.getElem_cons_zero, h, e]
  rw [Int.toNat_of_nonneg (by omega)]
  unfold World.cell?
  simp only [block_new]
  rfl
theorem conv_at (W : World) (b : Nat) (hb : b = W.heap.size) (x : Int) (h0 : 0 ≤ x) (h1 : x < 26) : (convert 34 9 (.slice (some ⟨b, 0, none⟩) 1 1)).run Tryd.prog (W.alloc (.cells #[.int .u8 (97 + x)] 5)) = .ok (.string ⟨#[UInt8.ofNat (97 + x).toNat]⟩) (W.alloc (.cells #[.int .u8 (97 + x)] 5)) := by
  subst hb; exact conv_oneG W x h0 h1
def nmG (n : Nat) (al : Bool) : ByteArray := if al then ⟨#[UInt8.ofNat (97 + n)]⟩ ++ ⟨#[206, 177, 32, 120]⟩ else ⟨#[UInt8.ofNat (97 + n)]⟩
theorem nmG_data (n : Nat) (al : Bool) : (nmG n al).data.toList = nameG n al := by
  unfold nmG nameG
  cases al
  · rfl
  · rw [if_pos rfl, if_pos rfl, data_append]; rfl
theorem GW.setLast' {w0 w : World} {vl va : Value} {g cap m : Nat} {l : List Nd} {ab : List ByteArray} {la : List Int} (h : GW w0 w vl va (.slice (some ⟨g, 0, none⟩) m cap) l ab la) (hm : la.length = m) (top : Nat) (z : Int) :
    GW w0 (w.setCell ⟨g, top, none⟩ (.int .i64 z)) vl va (.slice (some ⟨g, 0, none⟩) m cap) l ab (la.set top z) := by subst hm; exact h.setLast top z
theorem GW.pop' {w0 w : World} {vl : Value} {g cap g' cap' : Nat} {l : List Nd} {ab : List ByteArray} {la : List Int} (h : GW w0 w vl (.slice (some ⟨g, 0, none⟩) ab.length cap) (.slice (some ⟨g', 0, none⟩) ab.length cap') l ab la) (hl : la.length = ab.length) (m : Nat) (hm : m ≤ ab.length) :
    GW w0 w vl (.slice (some ⟨g, 0, none⟩) m cap) (.slice (some ⟨g', 0, none⟩) m cap') l (ab.take m) (la.take m) := by
  rw [← hl] at h
  exact GW.pop (by rw [← hl]; exact h) m hm (by omega)

theorem GI_leaf' {l : List Nd} {ab : List ByteArray} {la : List Int} (h : GIG l ab la) (t n : Nat) (al : Bool) (z : Int) (p0 : ByteArray) (hz : la[t]? = some z) (hzn : z < (n : Int)) (hp0 : ab[t]? = some p0) (x : Nd) (hl : l.length < 30) (htop : t + 1 = ab.length) (hn : n < 26)
    (hp : x.path.data.toList = pin p0.data.toList ++ nameG n al) (hf : fits x.kind x.data.data.toList = true) (hk : x.kind ≠ 4) : GIG (l ++ [x]) ab (la.set t n) := by
  refine GI_leaf h t n al x hl htop hn ?_ ?_ hf hk
  · rw [List.getElem!_eq_getElem?_getD, hz]; exact hzn
  · rw [List.getElem!_eq_getElem?_getD, hp0]; exact hp
theorem GI_dir' {l : List Nd} {ab : List ByteArray} {la : List Int} (h : GIG l ab la) (t n : Nat) (al : Bool) (z : Int) (p0 : ByteArray) (hz : la[t]? = some z) (hzn : z < (n : Int)) (hp0 : ab[t]? = some p0) (path : ByteArray) (hl : l.length < 30) (htop : t + 1 = ab.length) (hn : n < 26)
    (hp : path.data.toList = pin p0.data.toList ++ nameG n al) (h4 : ab.length ≤ 4) : GIG (l ++ [⟨path, 4, ⟨#[]⟩⟩]) (ab ++ [path]) (la.set t n ++ [-1]) := by
  refine GI_dir h t n al path hl htop hn ?_ ?_ h4
  · rw [List.getElem!_eq_getElem?_getD, hz]; exact hzn
  · rw [List.getElem!_eq_getElem?_getD, hp0]; exact hp
theorem box_over {w' : World} (w : World) (row : Option Nat) (b : Nat) (e : TypeId) (a c d : Value) (hb : w.heap[b]? = some (.cells #[a, c, d] 45 (0, 0))) (hg : w.grownBy w' row) (hk : ∀ g, row = some g → ∃ cs fz, w.heap[g]? = some (.cells cs e fz)) (he : e ≠ 45) : w'.heap[b]? = some (.cells #[a, c, d] 45 (0, 0)) := by
  refine (hg.block b (lt_of_block hb) (fun h => ?_)).trans hb
  obtain ⟨cs, fz, hh⟩ := hk b h.symm
  rw [hb] at hh
  injection hh with hh
  injection hh with _ hh _
  exact he hh.symm
theorem len_data (a : ByteArray) : a.data.toList.length = a.size := by simp
theorem short_size (s : ByteArray) (j r0 : Nat) : (s.extract j (j + r0 % 3)).size ≤ 20000 := by rw [ByteArray.size_extract]; omega
theorem fits_short (k : Int) (s : ByteArray) (j r0 : Nat) (hk : k = 1 ∨ k = 2) : fits k (s.extract j (j + r0 % 3)).data.toList = true := by
  have hl : (s.extract j (j + r0 % 3)).data.toList.length = (s.extract j (j + r0 % 3)).size := len_data _
  have : (s.extract j (j + r0 % 3)).size ≤ 3 := by rw [ByteArray.size_extract]; omega
  unfold fits
  rw [if_neg (by omega), if_pos hk]
  exact decide_eq_true (by omega)
theorem small_snoc {l : List Nd} {x : Nd} (h : ∀ n ∈ l, n.path.size ≤ 20000 ∧ n.data.size ≤ 20000) (h1 : x.path.size ≤ 20000) (h2 : x.data.size ≤ 20000) : ∀ n ∈ l ++ [x], n.path.size ≤ 20000 ∧ n.data.size ≤ 20000 := by
  intro n hn
  rcases List.mem_append.1 hn with hn | hn
  · exact h n hn
  · rw [List.mem_singleton] at hn; subst hn; exact ⟨h1, h2⟩
theorem nameG_nz (n : Nat) (al : Bool) (hn : n < 26) : ¬ (0 : UInt8) ∈ nameG n al := by
  have h97 : UInt8.ofNat (97 + n) ≠ 0 := fun e => by rw [← UInt8.toNat_inj, toNat97 n hn] at e; simp at e
  unfold nameG
  generalize UInt8.ofNat (97 + n) = c at h97
  split <;> simp [Ne.symm h97]
theorem GI_link {l : List Nd} {ab : List ByteArray} {la : List Int} (h : GIG l ab la) (t n : Nat) (al : Bool) (p0 : ByteArray) (hp0 : ab[t]? = some p0) (hn : n < 26) (P : ByteArray) (hP : P.data.toList = pin p0.data.toList ++ nameG n al) (hs : P.size ≤ 36) : fits 3 ((⟨#[46, 46, 47]⟩ : ByteArray) ++ P).data.toList = true := by
  obtain ⟨ds, h⟩ := h
  have h0 := h.nz p0 (List.mem_of_getElem? hp0)
  have hl : P.data.toList.length = P.size := by simp
  have hz : ¬ (0 : UInt8) ∈ P.data.toList := by
    rw [hP]
    intro hm
    rcases List.mem_append.1 hm with hm | hm
    · unfold pin at hm
      split at hm
      · cases hm
      · rcases List.mem_append.1 hm with hm | hm
        · exact h0 hm
        · simp at hm
    · exact nameG_nz n al hn hm
  rw [data_append]
  have e : (⟨#[46, 46, 47]⟩ : ByteArray).data.toList = [46, 46, 47] := rfl
  rw [e]
  unfold fits
  rw [if_pos rfl]
  have a1 : ([46, 46, 47] ++ P.data.toList : List UInt8) ≠ [] := by simp
  have a2 : ([46, 46, 47] ++ P.data.toList : List UInt8).length ≤ 100 := by rw [List.length_append, hl]; simp; omega
  have a3 : ¬ (0 : UInt8) ∈ ([46, 46, 47] ++ P.data.toList : List UInt8) := by
    intro hm
    rcases List.mem_append.1 hm with hm | hm
    · simp at hm
    · exact hz hm
  rw [decide_eq_true a1, decide_eq_true a2, decide_eq_true a3]; rfl

set_option maxRecDepth 20000 in
set_option maxHeartbeats 2000000 in
theorem grown_any (s : ByteArray) (w : World) (hs : s.size ≤ 16384) :
    Calls Tryd.prog 10 #[.string s] w fun e w' => ∃ v l, e = .returned v ∧ w'.ownsRow w.heap.size 45 3 v l.length (flat3 l) ∧ Tree l ∧ Below w.heap.size w w' := by
  obtain ⟨i30, hi30, hz0, hz1', hz2⟩ := info_parts Tryd.info45
  obtain ⟨i9, hi9, h90, h91, h92⟩ := info_parts Tryd.info9
  obtain ⟨i3, hi3, h30, h31, h32⟩ := info_parts Tryd.info3
  by_cases h3 : s.size < 3
  · have h3z : (s.size : Int) < 3 := by omega
    go_enter Tryd.func10, Tryd.ntmps10
    go_wp2
    go_ret
    refine ⟨_, [⟨⟨#[]⟩, 1, s⟩], rfl, ?_, tree_one s h3, ?_⟩
    · exact own_one w w.heap.size 45 #[.string ⟨#[]⟩, .int .i64 1, .string s] (Nat.le_refl _)
    · exact (Below.refl _ _).alloc (Nat.le_refl _) _
  · have h3z : ¬ (s.size : Int) < 3 := by omega
    go_enter Tryd.func10, Tryd.ntmps10
    go_wp2
    go_loopw [3, 4, 5, 6, 7, 8, 9, 10, 11] (fun vl va vt i _ _ _ _ _ w1 => ∃ (l : List Nd) (ab : List ByteArray) (la : List Int) (j : Nat), i = .int .i64 (j : Int) ∧ j ≤ s.size + 3 ∧ Hid (GIG l ab la) ∧ Hid (GW w w1 vl va vt l ab la) ∧ Hid (∀ n ∈ l, n.path.size ≤ 20000 ∧ n.data.size ≤ 20000)) (fun _ _ _ i _ _ _ _ _ _ => s.size + 3 - (intOf i).toNat)
    case atStart =>
      refine ⟨[rootG], [⟨#[]⟩], [-1], 0, rfl, by omega, hide GI_init, hide ⟨?_, ?_, ?_, ?_⟩, hide ?_⟩
      · exact ((own_one w w.heap.size 45 #[.string ⟨#[]⟩, .int .i64 4, .string ⟨#[]⟩] (Nat.le_refl _)).alloc _).alloc _
      · exact own_at ((own_one (w.alloc _) w.heap.size 9 #[.string ⟨#[]⟩] (by simp)).alloc _) (by simp)
      · exact own_at (own_one ((w.alloc _).alloc _) w.heap.size 3 #[.int .i64 (-1)] (by simp; omega)) (by simp)
      · exact (((Below.refl _ _).alloc (Nat.le_refl _) _).alloc (by simp) _).alloc (by simp; omega) _
      · intro n hn; simp at hn; subst hn; exact ⟨Nat.zero_le _, Nat.zero_le _⟩
    case round =>
      obtain ⟨l, ab, la, j, rfl, hj, hGI, hGW, hsm⟩ := hrel
      obtain ⟨hab1, hab5, hlab, hll, hll0⟩ : 1 ≤ ab.length ∧ ab.length ≤ 5 ∧ la.length = ab.length ∧ l.length ≤ 30 ∧ 0 < l.length := by
        obtain ⟨ds, h⟩ := hGI.out
        exact ⟨h.one, h.five, h.eqn, h.len, List.length_pos_iff.2 h.ne⟩
      obtain ⟨gl, capl, rfl, hcapl⟩ := own_form hGW.out.rl hll0
      obtain ⟨ga, capa, rfl, hcapa⟩ := own_form hGW.out.ra (by omega)
      obtain ⟨gt, capt, rfl, hcapt⟩ := own_form hGW.out.rt (by omega)
      by_cases hc : (j : Int) + 2 < s.size
      · by_cases hl : (l.length : Int) < 30
        · have hjl : j < s.data.toList.length := by have : s.data.toList.length = s.size := by simp
                                                    omega
          have hGW0 := hGW
          rw [hlab] at hGW0
          go_upto_block 2 with fail
          go_cut [4, 5, 7] from 22 to 161 (fun va vt k wc => ∃ m : Nat, 1 ≤ m ∧ m ≤ ab.length ∧ va = .slice (some ⟨ga, 0, none⟩) m capa ∧ vt = .slice (some ⟨gt, 0, none⟩) m capt ∧ Hid (GIG l (ab.take m) (la.take m)) ∧ wc = wr)
          case first =>
            by_cases hk : (s[j].toNat : Int) % 3 = 2
            · by_cases hm : 1 < ab.length
              · have hmz : (1 : Int) < ab.length := by omega
                have hpop := GI_pop hGI.out hm
                rw [hlab] at hpop
                obtain ⟨m, hm2⟩ : ∃ m, ab.length = m + 1 := ⟨ab.length - 1, by omega⟩
                have hma : m ≤ capa := by omega
                have hmt : m ≤ capt := by omega
                go_wp2_with fail
                refine wp_loop_rounds 3 ?_
                rw [rounds_succ]
                go_wp2
                rw [rounds_succ]
                go_wp2
                go_meet
                case rel => exact ⟨m, by omega, by omega, rfl, rfl, hide (by rw [hm2] at hpop; exact hpop), rfl⟩
              · have hmz : ¬ (1 : Int) < ab.length := by omega
                go_wp2_with fail
                refine wp_loop_rounds 3 ?_
                rw [rounds_succ]
                go_wp2
                go_meet
                case rel => exact ⟨ab.length, by omega, by omega, rfl, rfl, hide (by rw [List.take_length, ← hlab, List.take_length]; exact hGI.out), rfl⟩
            · have hkz : ¬ (1 : Int) < (s[j].toNat : Int) % 3 := by omega
              go_wp2_with fail
              refine wp_loop_rounds 3 ?_
              rw [rounds_succ]
              go_wp2
              go_meet
              case rel => exact ⟨ab.length, by omega, by omega, rfl, rfl, hide (by rw [List.take_length, ← hlab, List.take_length]; exact hGI.out), rfl⟩
          case rest =>
            obtain ⟨m, hm1, hm5, rfl, rfl, hGI2, rfl⟩ := hcut
            have hGW2 := hide (hGW0.out.pop' hlab m hm5)
            have hla2 : (la.take m).length = m := by rw [List.length_take]; omega
            have hab2 : (ab.take m).length = m := by rw [List.length_take]; omega
            generalize ab.take m = ab2 at hGI2 hGW2 hab2
            generalize la.take m = la2 at hGI2 hGW2 hla2
            clear hGW hGW0 hGI hlab hcapa hcapt
            obtain ⟨t, rfl⟩ : ∃ t, m = t + 1 := ⟨m - 1, by omega⟩
            obtain ⟨zn, hz, hzr⟩ : ∃ zn : Nat, la2[t]? = some ((zn : Int) - 1) ∧ zn ≤ 26 := by
              obtain ⟨ds, h⟩ := hGI2.out
              have h1 := h.rng (la2[t]'(by omega)) (List.getElem_mem _)
              refine ⟨(la2[t]'(by omega) + 1).toNat, ?_, by omega⟩
              rw [List.getElem?_eq_getElem (by omega)]
              congr 1; omega
            obtain ⟨p0, hp0⟩ : ∃ p0, ab2[t]? = some p0 := ⟨ab2[t]'(by omega), List.getElem?_eq_getElem (by omega)⟩
            have rt := hGW2.out.rt
            rw [hla2] at rt
            have ra := hGW2.out.ra
            rw [hab2] at ra
            have ct : wc.cell? ⟨gt, t, none⟩ = some (.int .i64 ((zn : Int) - 1)) := by rw [rt.cellAt t (by omega), List.getElem?_map, hz]; rfl
            have ca : wc.cell? ⟨ga, t, none⟩ = some (.string p0) := by rw [ra.cellAt t (by omega), List.getElem?_map, hp0]; rfl
            have ft := rt.frozenAt t
            have hj1 : j + 1 < s.size := by omega
            have hj2 : j + 2 < s.size := by omega
            obtain ⟨q, hq⟩ : ∃ q : Nat, s[j + 1].toNat = q := ⟨_, rfl⟩
            go_wp2
            go_quiet (fail)
            by_cases h25 : (25 : Int) < zn + (q : Int) % 3
            · go_wp2
              go_roundw
              case rel => exact ⟨l, ab2, la2, j + 3, by go_num, by omega, hGI2, hide (hGW2.out.kept (below_drewN (Below.refl _ _) _)), hsm⟩
              case measure => simp [intOf]; omega
            · obtain ⟨n, hn⟩ : ∃ n : Nat, n = zn + q % 3 := ⟨_, rfl⟩
              have hnz := hide (show (zn : Int) + (q : Int) % 3 = (n : Int) by omega)
              have hn26 : n < 26 := by omega
              have hzn : zn ≤ n := by omega
              have Hb := hide (show (97 : UInt8) + (UInt8.ofNat zn + UInt8.ofNat (q % 3)) = UInt8.ofNat (97 + n) by rw [hn]; simp)
              clear hn
              have hconv := conv_at ((wc.drewN nq).setCell ⟨gt, t, none⟩ (.int .i64 (zn + (q : Int) % 3))) wc.heap.size (by simp [World.setCell]) (zn + (q : Int) % 3) (by omega) (by omega)
              have hGW3 := hide ((((hGW2.out.kept (below_drewN (Below.refl _ _) nq)).setLast' hla2 t n)).alloc (.cells #[.int .u8 (97 + ((zn : Int) + (q : Int) % 3))] 5))
              go_upto_if 88 with fail
              go_cut [10] from 22 to 161 (fun p wx => ∃ al : Bool, p = .string (nmG n al) ∧ Hid (GW w wx (.slice (some ⟨gl, 0, none⟩) l.length capl) (.slice (some ⟨ga, 0, none⟩) (t + 1) capa) (.slice (some ⟨gt, 0, none⟩) (t + 1) capt) l ab2 (la2.set t n)))
              case first =>
                by_cases h5 : (q : Int) % 5 = 0
                · go_wp2
                  go_meet
                  case rel => exact ⟨true, by rw [Hb.out]; rfl, hide (by rw [hnz.out]; rw [hnz.out] at hGW3; exact hGW3.out)⟩
                · go_wp2
                  go_meet
                  case rel => exact ⟨false, by rw [Hb.out]; rfl, hide (by rw [hnz.out]; rw [hnz.out] at hGW3; exact hGW3.out)⟩
              case rest =>
                obtain ⟨al, rfl, hGW4⟩ := hcut
                have hNs : (nmG n al).size ≤ 5 := by
                  rw [size_of_data (nmG_data n al)]; unfold nameG; split <;> simp
                have HN := hide (nmG_data n al)
                have hps : p0.size ≤ 30 := by
                  obtain ⟨ds, h⟩ := hGI2.out
                  have h1 := h.sz t (by omega)
                  rw [List.getElem?_eq_getElem (by omega)] at hp0
                  rw [Option.some.inj hp0] at h1
                  omega
                generalize nmG n al = N at HN hNs
                have ra4 := hGW4.out.ra
                rw [hab2] at ra4
                have ca4 : wc.cell? ⟨ga, t, none⟩ = some (.string p0) := by rw [ra4.cellAt t (by omega), List.getElem?_map, hp0]; rfl
                clear hconv hGW3 Hb ct ca ft rt ra hGW2 ra4
                go_upto_if 95 with fail
                go_cut [10] from 22 to 161 (fun p wx => ∃ P : ByteArray, p = .string P ∧ Hid (P.data.toList = pin p0.data.toList ++ nameG n al) ∧ P.size ≤ 36 ∧ wx = wc)
                case first =>
                  by_cases hp : p0 = ⟨#[]⟩
                  · have Hp0 := hide hp0
                    clear hp0
                    subst hp
                    have hem : (!(⟨#[]⟩ : ByteArray).toList.isEmpty) = false := by rw [ByteArray.toList_eq]; rfl
                    rw [hem]
                    go_wp2
                    go_meet
                    case rel => exact ⟨N, rfl, hide (by rw [HN.out]; rfl), by omega, rfl⟩
                  · have hpd : p0.data.toList ≠ [] := fun e => hp (by apply ByteArray.ext; apply Array.toList_inj.1; rw [e])
                    have hpe : (!p0.toList.isEmpty) = true := by
                      rw [ByteArray.toList_eq]
                      cases hh : p0.data.toList with
                      | nil => exact absurd hh hpd
                      | cons a b => rfl
                    have h47 : (⟨#[47]⟩ : ByteArray).size = 1 := rfl
                    have Hp := hide hpd
                    clear hpd hp
                    rw [hpe]
                    go_wp2
                    go_meet
                    case rel => exact ⟨_, rfl, hide (by rw [data_append, data_append, HN.out, pin_ne _ Hp.out]), by rw [ByteArray.size_append, ByteArray.size_append]; omega, rfl⟩
                case rest =>
                  obtain ⟨P, rfl, HP, hPs, rfl⟩ := hcut
                  obtain ⟨r, hr⟩ : ∃ r : Nat, s[j + 2].toNat = r := ⟨_, rfl⟩
                  obtain ⟨r0, hr0⟩ : ∃ r0 : Nat, s[j].toNat = r0 := ⟨_, rfl⟩
                  clear ca4
                  have hwsz := hGW4.out.bel.size
                  have hz1 : (zn : Int) - 1 < n := by omega
                  have hl30 : l.length < 30 := by omega
                  by_cases hk4 : (r : Int) % 4 = 3
                  · by_cases hdeep : 4 < t + 1
                    · have hdz : (4 : Int) < (t : Int) + 1 := by omega
                      have hd : (j : Int) + (r0 : Int) % 3 ≤ s.size := by omega
                      have b4 : ((1 : Int) + (r : Int) % 4 == 4) = true := beq_iff_eq.2 (by omega)
                      clear hdeep
                      go_wp2_with (at_builtin; refine wpList_append_own _ rfl (.tmp 158) (.tmp 160) 36 rfl w.heap.size 45 i30 (.agg #[.string ⟨#[]⟩, .int .i64 0, .string ⟨#[]⟩]) 3 40 Tryd.underlying36 hi30 hz0 hz1' hz2 rfl (by decide) _ _ _ rfl ((hGW4.out.rl.alloc _).alloc _) ⟨wc.heap.size + 1, 0, none⟩ 1 1 [.string P, .int .i64 1, .string (s.extract j (j + r0 % 3))] rfl rfl (cell_three_at _ _ _ _ _ _ (by simp)) (fun x hx => by simp at hx; rcases hx with rfl | rfl | rfl <;> rfl) (by unfold maxLen; omega) (by omega) (by simp; omega) ?_; intro v2 w3 hown3 hgrow3 hnil3)
                      go_roundw
                      case rel =>
                        refine ⟨l ++ [⟨P, 1, s.extract j (j + r0 % 3)⟩], ab2, la2.set t n, j + 3, by go_num, by omega, hide (GI_leaf' hGI2.out t n al _ p0 hz hz1 hp0 _ hl30 (by omega) hn26 HP.out (fits_short 1 s j r0 (.inl rfl)) (show (1 : Int) ≠ 4 by decide)), hide ?_, hide (small_snoc hsm.out (by simp only; omega) (short_size s j r0))⟩
                        refine ((hGW4.out.alloc _).alloc _).newL hgrow3 ?_
                        rw [flat3_append, List.length_append]; exact hown3
                      case measure => simp [intOf]; omega
                    · have hdz : ¬ (4 : Int) < (t : Int) + 1 := by omega
                      have b4 : ((1 : Int) + (r : Int) % 4 == 4) = true := beq_iff_eq.2 (by omega)
                      have ht4 : t + 1 ≤ 4 := by omega
                      have hr4 : (1 : Int) + (r : Int) % 4 = 4 := by omega
                      have ra4 := hGW4.out.ra
                      rw [hab2] at ra4
                      clear hdeep
                      go_wp2_with (first
                        | (at_builtin
                           refine wpList_append_own _ rfl (.tmp 126) (.tmp 128) 23 rfl w.heap.size 9 i9 (.string ⟨#[]⟩) 1 16 Tryd.underlying23 hi9 h90 h91 h92 rfl (by decide) _ _ _ rfl ((ra4.alloc _).alloc _) ⟨wc.heap.size + 1, 0, none⟩ 1 1 [.string P] rfl rfl (cell_one_at _ _ _ _ (by simp)) (fun x hx => by simp at hx; subst hx; rfl) (by unfold maxLen; omega) (by omega) (by simp; omega) ?_
                           intro va2 w3 hown3 hgrow3 hnil3
                           go_loud (have hGW5 := hide (((hGW4.out.alloc _).alloc _).newA (ab' := ab2 ++ [P]) hgrow3 (by rw [List.length_append, hab2, List.map_append]; exact hown3))
                                    have hbx3 := box_over _ _ wc.heap.size 9 (.string P) (.int .i64 4) (.string ⟨#[]⟩) (block_keep _ (block_new wc _)) hgrow3 (own_kind ((ra4.alloc _).alloc _)) (by decide)
                                    have hsz3 := hGW5.out.bel.size
                                    have rt5 := hGW5.out.rt
                                    rw [List.length_set, hla2] at rt5
                                    clear hown3 hnil3))
                        | (at_builtin
                           refine wpList_append_own _ rfl (.tmp 130) (.tmp 131) 46 rfl w.heap.size 3 i3 (.int .i64 0) 1 8 Tryd.underlying46 hi3 h30 h31 h32 rfl (by decide) _ _ _ rfl (rt5.alloc _) ⟨w3.heap.size, 0, none⟩ 1 1 [.int .i64 (-1)] rfl rfl (cell_one_at _ _ _ _ rfl) (fun x hx => by simp at hx; subst hx; rfl) (by unfold maxLen; omega) (by omega) (by simp; omega) ?_
                           intro vt2 w4 hown4 hgrow4 hnil4
                           go_loud (have hGW6 := hide ((hGW5.out.alloc _).newT (la' := la2.set t n ++ [-1]) hgrow4 (by rw [List.length_append, List.length_set, hla2, List.map_append]; exact hown4))
                                    have hbx4 := box_over _ _ wc.heap.size 3 (.string P) (.int .i64 4) (.string ⟨#[]⟩) (block_keep _ hbx3) hgrow4 (own_kind (rt5.alloc _)) (by decide)
                                    obtain ⟨x0, x1, x2⟩ := box_cells hbx4
                                    have hsz4 := hGW6.out.bel.size
                                    clear hown4 hnil4))
                        | (at_builtin
                           refine wpList_append_own _ rfl (.tmp 158) (.tmp 160) 36 rfl w.heap.size 45 i30 (.agg #[.string ⟨#[]⟩, .int .i64 0, .string ⟨#[]⟩]) 3 40 Tryd.underlying36 hi30 hz0 hz1' hz2 rfl (by decide) _ _ _ rfl (hGW6.out.rl.alloc _) ⟨w4.heap.size, 0, none⟩ 1 1 [.string P, .int .i64 4, .string ⟨#[]⟩] rfl rfl (cell_three_at _ _ _ _ _ _ rfl) (fun x hx => by simp at hx; rcases hx with rfl | rfl | rfl <;> rfl) (by unfold maxLen; omega) (by omega) (by simp; omega) ?_
                           intro v2 w5 hown5 hgrow5 hnil5))
                      go_roundw
                      case rel =>
                        refine ⟨l ++ [⟨P, 4, ⟨#[]⟩⟩], ab2 ++ [P], la2.set t n ++ [-1], j + 3, by go_num, by omega, hide (GI_dir' hGI2.out t n al _ p0 hz hz1 hp0 P hl30 (by omega) hn26 HP.out (by omega)), hide ?_, hide (small_snoc hsm.out (by simp only; omega) (by show (0 : Nat) ≤ 20000; omega))⟩
                        refine (hGW6.out.alloc _).newL hgrow5 ?_
                        rw [flat3_append, List.length_append]; exact hown5
                      case measure => simp [intOf]; omega
                  · by_cases hk3 : (r : Int) % 4 = 2
                    · have b4 : ((1 : Int) + (r : Int) % 4 == 4) = false := beq_eq_false_iff_ne.2 (by omega)
                      have b3 : ((1 : Int) + (r : Int) % 4 == 3) = true := beq_iff_eq.2 (by omega)
                      have hd : (j : Int) + (r0 : Int) % 3 ≤ s.size := by omega
                      have h3 : (⟨#[46, 46, 47]⟩ : ByteArray).size = 3 := rfl
                      have hls : ¬ (100 : Int) < (3 : Int) + P.size := by omega
                      clear hk4
                      go_wp2_with (at_builtin; refine wpList_append_own _ rfl (.tmp 158) (.tmp 160) 36 rfl w.heap.size 45 i30 (.agg #[.string ⟨#[]⟩, .int .i64 0, .string ⟨#[]⟩]) 3 40 Tryd.underlying36 hi30 hz0 hz1' hz2 rfl (by decide) _ _ _ rfl ((hGW4.out.rl.alloc _).alloc _) ⟨wc.heap.size + 1, 0, none⟩ 1 1 [.string P, .int .i64 3, .string (⟨#[46, 46, 47]⟩ ++ P)] rfl rfl (cell_three_at _ _ _ _ _ _ (by simp)) (fun x hx => by simp at hx; rcases hx with rfl | rfl | rfl <;> rfl) (by unfold maxLen; omega) (by omega) (by simp; omega) ?_; intro v2 w3 hown3 hgrow3 hnil3)
                      go_roundw
                      case rel =>
                        refine ⟨l ++ [⟨P, 3, ⟨#[46, 46, 47]⟩ ++ P⟩], ab2, la2.set t n, j + 3, by go_num, by omega, hide (GI_leaf' hGI2.out t n al _ p0 hz hz1 hp0 _ hl30 (by omega) hn26 HP.out (GI_link hGI2.out t n al p0 hp0 hn26 P HP.out (by omega)) (show (3 : Int) ≠ 4 by decide)), hide ?_, hide (small_snoc hsm.out (by simp only; omega) (by simp only [ByteArray.size_append]; omega))⟩
                        refine ((hGW4.out.alloc _).alloc _).newL hgrow3 ?_
                        rw [flat3_append, List.length_append]; exact hown3
                      case measure => simp [intOf]; omega
                    · obtain ⟨kz, hkz⟩ : ∃ kz : Int, (r : Int) % 4 = kz := ⟨_, rfl⟩
                      have b4 : ((1 : Int) + kz == 4) = false := beq_eq_false_iff_ne.2 (by omega)
                      have b3 : ((1 : Int) + kz == 3) = false := beq_eq_false_iff_ne.2 (by omega)
                      have hkz0 : 0 ≤ kz := by omega
                      have hkz3 : kz < 4 := by omega
                      have hk12 : (1 + kz = 1 ∨ 1 + kz = 2) := by omega
                      have hd : (j : Int) + (r0 : Int) % 3 ≤ s.size := by omega
                      have H12 := hide hk12
                      clear hk4 hk3 hk12
                      go_wp2_with (at_builtin; refine wpList_append_own _ rfl (.tmp 158) (.tmp 160) 36 rfl w.heap.size 45 i30 (.agg #[.string ⟨#[]⟩, .int .i64 0, .string ⟨#[]⟩]) 3 40 Tryd.underlying36 hi30 hz0 hz1' hz2 rfl (by decide) _ _ _ rfl ((hGW4.out.rl.alloc _).alloc _) ⟨wc.heap.size + 1, 0, none⟩ 1 1 [.string P, .int .i64 (1 + kz), .string (s.extract j (j + r0 % 3))] rfl rfl (cell_three_at _ _ _ _ _ _ (by simp)) (fun x hx => by simp at hx; rcases hx with rfl | rfl | rfl <;> rfl) (by unfold maxLen; omega) (by omega) (by simp; omega) ?_; intro v2 w3 hown3 hgrow3 hnil3)
                      go_roundw
                      case rel =>
                        refine ⟨l ++ [⟨P, 1 + kz, s.extract j (j + r0 % 3)⟩], ab2, la2.set t n, j + 3, by go_num, by omega, hide (GI_leaf' hGI2.out t n al _ p0 hz hz1 hp0 _ hl30 (by omega) hn26 HP.out (fits_short (1 + kz) s j r0 H12.out) (by simp only; have := H12.out; omega)), hide ?_, hide (small_snoc hsm.out (by simp only; omega) (short_size s j r0))⟩
                        refine ((hGW4.out.alloc _).alloc _).newL hgrow3 ?_
                        rw [flat3_append, List.length_append]; exact hown3
                      case measure => simp [intOf]; omega
        · go_wp2
          go_ret
          refine ⟨_, rfl, l, hGW.out.rl, ?_, hGW.out.bel⟩
          obtain ⟨ds, h⟩ := hGI.out
          exact ⟨⟨ds, h.run⟩, h.nm, h.ne, h.len, hsm.out, Lone.of h.run (by have := h.one; have := h.le; omega)⟩
      · go_wp2
        go_ret
        refine ⟨_, rfl, l, hGW.out.rl, ?_, hGW.out.bel⟩
        obtain ⟨ds, h⟩ := hGI.out
        exact ⟨⟨ds, h.run⟩, h.nm, h.ne, h.len, hsm.out, Lone.of h.run (by have := h.one; have := h.le; omega)⟩
end Go.Proofs.YticcbaapbnfmmaaDoor
