/-
  MATHEMATICS of narkeep.grown: what its loop keeps.
-/
import Derived.Test.YtpbjdfobbnpjfaaDoorG2
namespace Go.Proofs.YtpbjdfobbnpjfaaDoor
open Go.RowKit

/-- The name that stands last in a directory, by its number. -/
def LastOk (b : Bs) (z : Int) : Prop := (b = [] ∧ z = -1) ∨ ∃ (n : Nat) (al : Bool), n < 26 ∧ b = nameG n al ∧ z = n

/-- What the loop keeps: the nodes run through, the paths above stand open, the last names are numbered. -/
structure GId (l : List Nd) (ab : List ByteArray) (la : List Int) (ds : Ds) : Prop where
  run : runF 0 [] l = some ds
  nm : Nm l
  ne : l ≠ []
  len : l.length ≤ 30
  one : 1 ≤ ab.length
  five : ab.length ≤ 5
  eqn : la.length = ab.length
  le : ab.length ≤ ds.length
  at' : ∀ i (h : i < ab.length) (h' : i < la.length) (h2 : i < ds.length), ds[i].1.data.toList = pin ab[i].data.toList ∧ LastOk ds[i].2.data.toList la[i]
  grow : ∀ i j (hi : i < ab.length) (hj : j < ab.length), i < j → (pin ab[i].data.toList).length < (pin ab[j].data.toList).length
  nz : ∀ p ∈ ab, ¬ (0 : UInt8) ∈ p.data.toList
  sz : ∀ i (h : i < ab.length), ab[i].size ≤ 6 * i
  rng : ∀ z ∈ la, -1 ≤ z ∧ z ≤ 25
def GI (l : List Nd) (ab : List ByteArray) (la : List Int) : Prop := ∃ ds, GId l ab la ds

def rootG : Nd := ⟨⟨#[]⟩, 4, ⟨#[]⟩⟩
theorem toNat97 (n : Nat) (h : n < 26) : (UInt8.ofNat (97 + n)).toNat = 97 + n := by rw [UInt8.toNat_ofNat']; omega
theorem GI_init : GI [rootG] [⟨#[]⟩] [-1] := by
  refine ⟨[(⟨#[]⟩, ⟨#[]⟩)], ?_, ?_, by simp, by simp, by simp, by simp, rfl, by simp, ?_, ?_, ?_, ?_, ?_⟩
  · simp only [runF]
    have : stepW 0 [] rootG = some [(⟨#[]⟩, ⟨#[]⟩)] := by
      unfold stepW
      rw [if_pos ⟨by omega, by rfl⟩, if_pos rfl, if_pos (by rw [ByteArray.toList_eq]; rfl)]
      rfl
    rw [this]
  · intro n hn; cases hn
  · intro i h h' h2
    obtain rfl : i = 0 := by simp at h; exact h
    exact ⟨rfl, .inl ⟨rfl, rfl⟩⟩
  · intro i j hi hj hlt; simp at hi hj; omega
  · intro p hp; simp at hp; subst hp; simp
  · intro i h; obtain rfl : i = 0 := by simp at h; exact h
    exact Nat.le_refl 0
  · intro z hz; simp at hz; subst hz; exact ⟨by omega, by omega⟩
/-- One directory is left. -/
theorem GI_pop {l : List Nd} {ab : List ByteArray} {la : List Int} (h : GI l ab la) (h1 : 1 < ab.length) : GI l (ab.take (ab.length - 1)) (la.take (la.length - 1)) := by
  obtain ⟨ds, h⟩ := h
  have hl : (ab.take (ab.length - 1)).length = ab.length - 1 := by rw [List.length_take]; omega
  have hl' : (la.take (la.length - 1)).length = la.length - 1 := by rw [List.length_take]; omega
  have he := h.eqn; have h5 := h.five; have hle := h.le
  refine ⟨ds, h.run, h.nm, h.ne, h.len, by omega, by omega, by omega, by omega, ?_, ?_, ?_, ?_, ?_⟩
  · intro i h1 h2 h3
    rw [List.getElem_take, List.getElem_take]
    exact h.at' i (by omega) (by omega) h3
  · intro i j hi hj hlt
    rw [List.getElem_take, List.getElem_take]
    exact h.grow i j (by omega) (by omega) hlt
  · intro p hp; exact h.nz p (List.mem_of_mem_take hp)
  · intro i hi; rw [List.getElem_take]; exact h.sz i (by omega)
  · intro z hz; exact h.rng z (List.mem_of_mem_take hz)

theorem nameG_head (n : Nat) (al : Bool) : ∃ t, nameG n al = UInt8.ofNat (97 + n) :: t := by unfold nameG; cases al <;> exact ⟨_, rfl⟩
theorem less_name {m n : Nat} {a b : Bool} (hm : m < n) (hn : n < 26) : Op.bytesLess (nameG n a) (nameG m b) = false ∧ (nameG n a == nameG m b) = false := by
  obtain ⟨t, ht⟩ := nameG_head n a
  obtain ⟨u, hu⟩ := nameG_head m b
  have h1 := toNat97 n hn
  have h2 := toNat97 m (by omega)
  have hne : UInt8.ofNat (97 + n) ≠ UInt8.ofNat (97 + m) := fun e => by rw [← UInt8.toNat_inj, h1, h2] at e; omega
  have hlt : ¬ UInt8.ofNat (97 + n) < UInt8.ofNat (97 + m) := fun e => by rw [UInt8.lt_iff_toNat_lt, h1, h2] at e; omega
  rw [ht, hu]
  constructor
  · simp only [Op.bytesLess]
    rw [decide_eq_false hlt, beq_eq_false_iff_ne.2 hne]; rfl
  · rw [beq_eq_false_iff_ne]; intro e; exact hne (List.cons.inj e).1
theorem notAbove_name (x last : ByteArray) (n : Nat) (al : Bool) (z : Int) (hn : n < 26) (hx : x.data.toList = nameG n al) (hl : LastOk last.data.toList z) (hz : z < n) : notAbove x last = false := by
  unfold notAbove
  rw [ByteArray.toList_eq, ByteArray.toList_eq, hx]
  rcases hl with ⟨h1, _⟩ | ⟨m, a, hm, h1, h2⟩
  · rw [h1]
    obtain ⟨t, ht⟩ := nameG_head n al
    rw [ht]; rfl
  · rw [h1]
    obtain ⟨h3, h4⟩ := less_name (a := al) (b := a) (show m < n by omega) hn
    rw [h3, h4]; rfl

/-- The directories behind a node that grew. -/
theorem place_grown {l : List Nd} {ab : List ByteArray} {la : List Int} {ds : Ds} (h : GId l ab la ds) (top n : Nat) (al : Bool) (path : ByteArray) (kind : Int) (htop : top + 1 = ab.length) (hn : n < 26)
    (hz : la[top]'(by have := h.eqn; omega) < n) (hp : path.data.toList = pin (ab[top]'(by omega)).data.toList ++ nameG n al) :
    placeRest ds path kind = some (enterL ((ds.take (top + 1)).set top ((ds[top]'(by have := h.le; omega)).1, nam path)) path kind) := by
  have he := h.eqn; have h5 := h.five; have hle := h.le
  have hG : IsG (nameG n al) := ⟨n, al, hn, rfl⟩
  obtain ⟨g1, g2, _, _⟩ := hG.name
  obtain ⟨a1, a2⟩ := h.at' top (by omega) (by omega) (by omega)
  have hpre : (pre path).data.toList = pin (ab[top]'(by omega)).data.toList := by rw [pre_data, hp, preL_path _ _ g2]
  have hnam : (nam path).data.toList = nameG n al := by rw [nam_data, hp, namL_path _ _ g2]
  have hab : above ds (pre path) = top + 1 := by
    refine above_at ds _ top (by omega) ?_ ?_
    · apply ByteArray.ext; apply Array.toList_inj.1; rw [a1, hpre]
    · intro j hj hlt e
      have := (h.at' j (by omega) (by omega) (by omega)).1
      rw [e, hpre] at this
      have hg := h.grow j top (by omega) (by omega) hlt
      rw [this] at hg; omega
  have hgD : ds.getD top (⟨#[]⟩, ⟨#[]⟩) = ds[top]'(by omega) := by simp [List.getD, show top < ds.length by omega]
  unfold placeRest
  simp only [hab, Nat.add_sub_cancel, hgD]
  rw [if_neg (by omega), if_neg (by rw [hnam, g1]; simp), if_neg (by rw [notAbove_name _ _ n al _ hn hnam a2 hz]; simp)]

theorem step_grown {l : List Nd} {ab : List ByteArray} {la : List Int} {ds : Ds} (h : GId l ab la ds) (x : Nd) (hl : l.length < 30) (hf : fits x.kind x.data.data.toList = true) (ds' : Ds) (hp : placeRest ds x.path x.kind = some ds') :
    runF 0 [] (l ++ [x]) = some ds' := by
  rw [run_snoc, h.run]
  simp only [Option.bind_some, Nat.zero_add]
  unfold stepW
  have : l.length ≠ 0 := fun e => h.ne (List.eq_nil_of_length_eq_zero e)
  rw [if_pos ⟨hl, hf⟩, if_neg this, hp]
theorem nm_snoc {l : List Nd} (x : Nd) (h : Nm l) (hne : l ≠ []) (hx : IsG (namL x.path.data.toList)) : Nm (l ++ [x]) := by
  intro y hy
  cases l with
  | nil => exact absurd rfl hne
  | cons a r =>
    simp only [List.cons_append, List.tail_cons, List.mem_append, List.mem_singleton] at hy
    rcases hy with hy | rfl
    · exact h y (by simpa using hy)
    · exact hx

/-- A file or a link grew. -/
theorem GI_leaf {l : List Nd} {ab : List ByteArray} {la : List Int} (h : GI l ab la) (top n : Nat) (al : Bool) (x : Nd) (hl : l.length < 30) (htop : top + 1 = ab.length) (hn : n < 26)
    (hz : la[top]! < (n : Int)) (hp : x.path.data.toList = pin (ab[top]!).data.toList ++ nameG n al) (hf : fits x.kind x.data.data.toList = true) (hk : x.kind ≠ 4) :
    GI (l ++ [x]) ab (la.set top n) := by
  obtain ⟨ds, h⟩ := h
  have he := h.eqn; have h5 := h.five; have hle := h.le
  rw [getElem!_pos la top (by omega)] at hz
  rw [getElem!_pos ab top (by omega)] at hp
  have hG : IsG (nameG n al) := ⟨n, al, hn, rfl⟩
  have g2 := hG.name.2.1
  have hpl := place_grown h top n al x.path x.kind htop hn hz hp
  have hen : ∀ d, enterL d x.path x.kind = d := fun d => by unfold enterL; rw [if_neg hk]
  rw [hen] at hpl
  have hdl : ((ds.take (top + 1)).set top ((ds[top]'(by omega)).1, nam x.path)).length = top + 1 := by rw [List.length_set, List.length_take]; omega
  refine ⟨_, step_grown h x hl hf _ hpl, nm_snoc x h.nm h.ne (by rw [hp, namL_path _ _ g2]; exact hG), by simp, by simp; omega, h.one, h.five, by rw [List.length_set]; exact he, by omega, ?_, h.grow, h.nz, h.sz, ?_⟩
  · intro i h1 h2 h3
    rw [List.length_set] at h2
    by_cases hi : i = top
    · subst hi
      rw [List.getElem_set_self, List.getElem_set_self]
      exact ⟨(h.at' i h1 (by omega) (by omega)).1, .inr ⟨n, al, hn, by rw [nam_data, hp, namL_path _ _ g2], rfl⟩⟩
    · rw [List.getElem_set_ne (fun e => hi e.symm), List.getElem_set_ne (fun e => hi e.symm), List.getElem_take]
      exact h.at' i h1 (by omega) (by omega)
  · intro z hz'
    rcases List.mem_or_eq_of_mem_set hz' with hz' | rfl
    · exact h.rng z hz'
    · exact ⟨by omega, by omega⟩
/-- A directory grew. -/
theorem GI_dir {l : List Nd} {ab : List ByteArray} {la : List Int} (h : GI l ab la) (top n : Nat) (al : Bool) (path : ByteArray) (hl : l.length < 30) (htop : top + 1 = ab.length) (hn : n < 26)
    (hz : la[top]! < (n : Int)) (hp : path.data.toList = pin (ab[top]!).data.toList ++ nameG n al) (h4 : ab.length ≤ 4) :
    GI (l ++ [⟨path, 4, ⟨#[]⟩⟩]) (ab ++ [path]) (la.set top n ++ [-1]) := by
  obtain ⟨ds, h⟩ := h
  have he := h.eqn; have h5 := h.five; have hle := h.le
  rw [getElem!_pos la top (by omega)] at hz
  rw [getElem!_pos ab top (by omega)] at hp
  have hG : IsG (nameG n al) := ⟨n, al, hn, rfl⟩
  have g2 := hG.name.2.1
  have gne := hG.name.2.2.2
  have hpl := place_grown h top n al path 4 htop hn hz hp
  have hen : ∀ d, enterL d path 4 = d ++ [(prefixIn path, ⟨#[]⟩)] := fun d => by unfold enterL; rw [if_pos rfl]
  rw [hen] at hpl
  have hdl : ((ds.take (top + 1)).set top ((ds[top]'(by omega)).1, nam path)).length = top + 1 := by rw [List.length_set, List.length_take]; omega
  have hpn : path.data.toList ≠ [] := by rw [hp]; simp [gne]
  have hgl : (nameG n al).length ≤ 5 := by unfold nameG; split <;> simp
  have hst := step_grown h ⟨path, 4, ⟨#[]⟩⟩ hl rfl _ hpl
  have hpin : (pin path.data.toList).length = (pin (ab[top]'(by omega)).data.toList).length + (nameG n al).length + 1 := by rw [pin_ne _ hpn, hp]; simp; omega
  have hpsz : path.size ≤ 6 * (top + 1) := by
    rw [size_of_data hp, List.length_append]
    have := h.sz top (by omega)
    have h2 : (pin (ab[top]'(by omega)).data.toList).length ≤ (ab[top]'(by omega)).size + 1 := by
      rw [size_of_data (s := ab[top]'(by omega)) rfl]; unfold pin; split <;> simp
    omega
  refine ⟨_, hst, nm_snoc _ h.nm h.ne (by show IsG (namL path.data.toList); rw [hp, namL_path _ _ g2]; exact hG), by simp, by simp; omega, by simp, by simp; omega, by simp [he], by rw [List.length_append, List.length_append, hdl]; simp; omega, ?_, ?_, ?_, ?_, ?_⟩
  · intro i h1 h2 h3
    by_cases hlast : i = top + 1
    · subst hlast
      rw [List.getElem_append_right (by omega), List.getElem_append_right (by omega), List.getElem_append_right (by rw [List.length_set]; omega)]
      simp only [List.getElem_singleton]
      exact ⟨prefixIn_data _, .inl ⟨rfl, rfl⟩⟩
    · have hi1 : i < ab.length := by simp at h1; omega
      have hi2 : i < (la.set top (n : Int)).length := by rw [List.length_set]; omega
      rw [List.getElem_append_left (by omega), List.getElem_append_left hi1, List.getElem_append_left hi2]
      by_cases hi : i = top
      · subst hi
        rw [List.getElem_set_self, List.getElem_set_self]
        exact ⟨(h.at' i hi1 (by omega) (by omega)).1, .inr ⟨n, al, hn, by rw [nam_data, hp, namL_path _ _ g2], rfl⟩⟩
      · rw [List.getElem_set_ne (fun e => hi e.symm), List.getElem_set_ne (fun e => hi e.symm), List.getElem_take]
        exact h.at' i hi1 (by omega) (by omega)
  · intro i j hi hj hlt
    by_cases hlast : j = top + 1
    · subst hlast
      have hi1 : i < ab.length := by omega
      rw [List.getElem_append_left hi1, List.getElem_append_right (by omega)]
      simp only [List.getElem_singleton]
      rw [hpin]
      by_cases hit : i = top
      · subst hit; omega
      · have := h.grow i top hi1 (by omega) (by omega); omega
    · have hj1 : j < ab.length := by simp at hj; omega
      rw [List.getElem_append_left (by omega), List.getElem_append_left hj1]
      exact h.grow i j (by omega) hj1 hlt
  · intro p hpm
    rcases List.mem_append.1 hpm with hpm | hpm
    · exact h.nz p hpm
    · rw [List.mem_singleton] at hpm; subst hpm
      rw [hp]
      intro hm
      have hgz : ¬ (0 : UInt8) ∈ nameG n al := by
        have h97 : UInt8.ofNat (97 + n) ≠ 0 := fun e => by rw [← UInt8.toNat_inj, toNat97 n hn] at e; simp at e
        unfold nameG
        generalize UInt8.ofNat (97 + n) = c at h97
        split <;> simp [Ne.symm h97]
      rcases List.mem_append.1 hm with hm | hm
      · have h0 := h.nz _ (List.getElem_mem (show top < ab.length by omega))
        unfold pin at hm
        split at hm
        · cases hm
        · rcases List.mem_append.1 hm with hm | hm
          · exact h0 hm
          · simp at hm
      · exact hgz hm
  · intro i hi
    by_cases hlast : i = top + 1
    · subst hlast
      rw [List.getElem_append_right (by omega)]
      simp only [List.getElem_singleton]
      exact hpsz
    · have hi1 : i < ab.length := by simp at hi; omega
      rw [List.getElem_append_left hi1]; exact h.sz i hi1
  · intro z hz'
    rcases List.mem_append.1 hz' with hz' | hz'
    · rcases List.mem_or_eq_of_mem_set hz' with hz' | rfl
      · exact h.rng z hz'
      · exact ⟨by omega, by omega⟩
    · rw [List.mem_singleton] at hz'; subst hz'; exact ⟨by omega, by omega⟩
end Go.Proofs.YtpbjdfobbnpjfaaDoor
