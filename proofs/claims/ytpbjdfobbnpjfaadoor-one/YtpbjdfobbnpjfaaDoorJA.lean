import Derived.Test.YtpbjdfobbnpjfaaDoorR1
namespace Go.Proofs.YtpbjdfobbnpjfaaDoor
open Go.RowKit

theorem decodeN_slash (n b0 b1 b2 b3 : Nat) (h : badR (Lib.decodeN n b0 b1 b2 b3).1 (Lib.decodeN n b0 b1 b2 b3).2 = false) : b0 ≠ 47 ∧ (1 < (Lib.decodeN n b0 b1 b2 b3).2 → b1 ≠ 47) ∧ (2 < (Lib.decodeN n b0 b1 b2 b3).2 → b2 ≠ 47) ∧ (3 < (Lib.decodeN n b0 b1 b2 b3).2 → b3 ≠ 47) := by
  have dead : ∀ x : Nat × Nat, x = (65533, 1) → badR x.1 x.2 = false → False := fun x e hb => by subst e; simp [badR] at hb
  unfold Lib.decodeN at h ⊢
  by_cases c1 : b0 < 128
  · simp only [if_pos c1] at h ⊢
    simp [badR] at h
    omega
  · by_cases c2 : b0 / 32 = 6 ∧ (1 < n ∧ b1 / 64 = 2)
    · by_cases c3 : b0 % 32 * 64 + b1 % 64 ≥ 128
      · simp only [if_neg c1, if_pos c2, if_pos c3] at h ⊢
        omega
      · simp only [if_neg c1, if_pos c2, if_neg c3] at h
        exact (dead _ rfl h).elim
    · by_cases c4 : b0 / 16 = 14 ∧ (1 < n ∧ b1 / 64 = 2) ∧ (2 < n ∧ b2 / 64 = 2)
      · simp only [if_neg c1, if_neg c2, if_pos c4] at h ⊢
        split at h
        · rename_i c5
          simp only [if_pos c5]
          omega
        · exact (dead _ rfl h).elim
      · by_cases c6 : b0 / 8 = 30 ∧ (1 < n ∧ b1 / 64 = 2) ∧ (2 < n ∧ b2 / 64 = 2) ∧ (3 < n ∧ b3 / 64 = 2)
        · simp only [if_neg c1, if_neg c2, if_neg c4, if_pos c6] at h ⊢
          split at h
          · rename_i c5
            simp only [if_pos c5]
            omega
          · exact (dead _ rfl h).elim
        · simp only [if_neg c1, if_neg c2, if_neg c4, if_neg c6] at h
          exact (dead _ rfl h).elim
theorem letters_slash : ∀ (n : Nat) (l : Bs) (k : Nat), l.length ≤ n → letters l = some k → ¬ (47 : UInt8) ∈ l
  | 0, l, k, h, _ => by
    have : l = [] := List.eq_nil_of_length_eq_zero (by omega)
    subst this; simp
  | n + 1, l, k, h, hk => by
    by_cases hl : l = []
    · subst hl; simp
    · rw [letters_step l hl] at hk
      have hw := Lib.decodeL_width l
      have h4 := decodeL_le4 l
      have hlen : 0 < l.length := List.length_pos_iff.2 hl
      split at hk
      · cases hk
      · rename_i hb
        cases hr : letters (l.drop (Lib.decodeL l).2) with
        | none => rw [hr] at hk; cases hk
        | some j =>
          have ih := letters_slash n _ j (by rw [List.length_drop]; omega) hr
          intro hm
          obtain ⟨i, hi, he⟩ := List.mem_iff_getElem.1 hm
          by_cases hiw : i < (Lib.decodeL l).2
          · have hb' : badR (Lib.decodeL l).1 (Lib.decodeL l).2 = false := by simpa using hb
            unfold Lib.decodeL at hb' hiw h4
            rw [Lib.decode_at] at hb' hiw h4
            have hs := decodeN_slash _ _ _ _ _ hb'
            have hg : ((⟨l.toArray⟩ : ByteArray).get! (0 + i)).toNat = 47 := by
              have : (⟨l.toArray⟩ : ByteArray).get! i = l[i] := by
                show l.toArray[i]! = l[i]
                simp [hi]
              rw [Nat.zero_add, this, he]; rfl
            have : i < 4 := by omega
            match i, this with
            | 0, _ => exact hs.1 hg
            | 1, _ => exact hs.2.1 hiw hg
            | 2, _ => exact hs.2.2.1 hiw hg
            | 3, _ => exact hs.2.2.2 hiw hg
          · apply ih
            rw [List.mem_iff_getElem]
            exact ⟨i - (Lib.decodeL l).2, by rw [List.length_drop]; omega, by rw [List.getElem_drop]; simp only [Nat.add_sub_cancel' (by omega : (Lib.decodeL l).2 ≤ i)]; exact he⟩
theorem name_slash (l : Bs) (h : isNameB l = true) : ¬ (47 : UInt8) ∈ l := by
  unfold isNameB at h
  cases hl : letters l with
  | none => rw [hl] at h; simp at h
  | some n => exact letters_slash _ l n (Nat.le_refl _) hl

theorem ba_eqL {a b : ByteArray} (h : a.data.toList = b.data.toList) : a = b := by
  cases a; cases b
  congr
  exact Array.toList_inj.1 h
theorem exec_len : ∀ (f : Nat) (K : List It) (x y : Pt), exec f K x = .yes y → y.left.length ≤ x.left.length
  | f, [], x, y, h => by
    have h : (Ex.yes x : Ex Pt) = .yes y := by cases f <;> exact h
    injection h with h; subst h; exact Nat.le_refl _
  | 0, _ :: _, x, y, h => by cases h
  | f + 1, i :: K, x, y, h => by
    simp only [exec] at h
    cases ho : one i x with
    | no e p => rw [ho] at h; cases h
    | yes z =>
      rw [ho] at h
      obtain ⟨z, l⟩ := z
      have h1 := one_len ho
      have h2 := exec_len f (l ++ K) z y h
      omega
theorem run_len (K : List It) (x y : Pt) (h : run K x = .yes y) : y.left.length ≤ x.left.length := exec_len _ K x y h
/-- Nodes that the look runs through, with so many directories open behind them. -/
def Vt (ns : List Nd) (D : Ds) : Prop := ∃ rest, runF 0 [] ns = some (D ++ rest)
def Ch (D : Ds) : Prop := D.Pairwise fun a b => a.1.size < b.1.size
/-- A node more, whatever it is. -/
def AddV (ns : List Nd) (D : Ds) (path : ByteArray) : Prop := ∀ n : Nd, n.path = path → fits n.kind n.data.data.toList = true → runF 0 [] (ns ++ [n]) = some (enterL D path n.kind)
theorem addV_root : AddV [] [] ⟨#[]⟩ := by
  rintro ⟨p, k, d⟩ rfl hf
  simp only [List.nil_append, runF, stepW]
  rw [if_pos ⟨by omega, hf⟩, if_pos trivial, if_pos (by rw [ByteArray.toList_eq]; rfl)]
theorem addV_in {ns : List Nd} {D : Ds} {q P last nm : ByteArray} (hV : Vt ns (D ++ [(P, last)])) (hne : ns ≠ []) (hl : ns.length < 30) (hc : Ch (D ++ [(P, last)])) (hD : D.length + 1 ≤ 5) (hP : P = prefixIn q) (hn : isNameB nm.data.toList = true) (ha : notAbove nm last = false) : AddV ns (D ++ [(P, nm)]) (P ++ nm) := by
  rintro ⟨p, k, d⟩ rfl hf
  obtain ⟨rest, hr⟩ := hV
  have hns : ns.length ≠ 0 := fun e => hne (List.eq_nil_of_length_eq_zero e)
  have hpd : (P ++ nm).data.toList = pin q.data.toList ++ nm.data.toList := by rw [data_append, hP, prefixIn_data]
  have hno := name_slash _ hn
  have hpre : pre (P ++ nm) = P := ba_eqL (by rw [pre_data, hpd, preL_path _ _ hno, hP, prefixIn_data])
  have hnam : nam (P ++ nm) = nm := ba_eqL (by rw [nam_data, hpd, namL_path _ _ hno])
  rw [run_snoc, hr]
  simp only [Option.bind_some, Nat.zero_add, stepW]
  rw [if_pos ⟨hl, hf⟩, if_neg hns]
  have hget : (D ++ [(P, last)] ++ rest)[D.length]? = some (P, last) := by simp
  have hab : above (D ++ [(P, last)] ++ rest) P = D.length + 1 := by
    refine above_at _ P D.length (by simp) ?_ ?_
    · have := List.getElem?_eq_some_iff.1 hget
      obtain ⟨h1, h2⟩ := this
      rw [h2]
    · intro j hj hjk e
      have hj' : (D ++ [(P, last)] ++ rest)[j] = D[j] := by simp [hjk]
      rw [hj'] at e
      have := (List.pairwise_append.1 hc).2.2 D[j] (List.getElem_mem _) (P, last) (by simp)
      rw [e] at this
      exact absurd this (Nat.lt_irrefl _)
  unfold placeRest
  simp only [hpre, hnam, hab]
  rw [if_neg (by omega), if_neg (by rw [hn]; simp)]
  have hgD : (D ++ [(P, last)] ++ rest).getD (D.length + 1 - 1) (⟨#[]⟩, ⟨#[]⟩) = (P, last) := by simp [List.getD]
  rw [hgD]
  simp only [ha]
  rw [if_neg (by simp)]
  congr 1
  have htk : (D ++ [(P, last)] ++ rest).take (D.length + 1) = D ++ [(P, last)] := List.take_left' (by simp)
  rw [htk]
  simp
/-- What it means that the first item was taken. -/
theorem run_yes {i : It} {K : List It} {x z : Pt} (h : run (i :: K) x = .yes z) : ∃ (s : ByteArray) (g : Gr) (push : List It) (y : Pt), s.size ≤ i.most ∧ takeF x.gr i s = .more g push ∧ y.gr = g ∧ y.left.length + 8 ≤ x.left.length ∧ run (push ++ K) y = .yes z := by
  rw [run_cons] at h
  cases ho : one i x with
  | no e p => rw [ho] at h; cases h
  | yes y =>
    obtain ⟨y, push⟩ := y
    rw [ho] at h
    have hl := one_len ho
    unfold one at ho
    split at ho
    · cases ho
    · cases ho
    · rename_i s rest n hcut
      split at ho
      · cases ho
      · rename_i g' push' ht
        injection ho with ho
        injection ho with h1 h2
        subst h1
        subst h2
        exact ⟨_, _, _, _, by rw [ba_size]; exact (cutF_len hcut).2.2.2, ht, rfl, hl.1, h⟩
theorem run_word {w : ByteArray} {K : List It} {x z : Pt} (h : run (.word w :: K) x = .yes z) : ∃ y : Pt, y.gr = x.gr ∧ y.left.length + 8 ≤ x.left.length ∧ run K y = .yes z := by
  obtain ⟨s, g, push, y, _, ht, hg, hl, hr⟩ := run_yes h
  rw [take_word] at ht
  split at ht
  · injection ht with h1 h2
    subst h1; subst h2
    exact ⟨y, hg, hl, hr⟩
  · cases ht
theorem run_data {ns : List Nd} {D : Ds} {path p d0 : ByteArray} {k : Int} {x z : Pt} (hg : x.gr = ⟨ns ++ [⟨path, k, d0⟩], D, p⟩) (h : run [.data, .word wClose] x = .yes z) : ∃ d : ByteArray, fits k d.data.toList = true ∧ z.gr = ⟨ns ++ [⟨path, k, d⟩], D, p⟩ := by
  obtain ⟨s, g, push, y, _, ht, hy, _, hr⟩ := run_yes h
  rw [hg, take_data] at ht
  simp only [lastN_snoc, setN_snoc] at ht
  split at ht
  · rename_i hf
    injection ht with h1 h2
    subst h1; subst h2
    obtain ⟨y2, hy2, _, hr2⟩ := run_word hr
    rw [run_nil] at hr2
    injection hr2 with hr2
    subst hr2
    exact ⟨s, hf, by rw [hy2, hy]⟩
  · cases ht
theorem run_file {ns : List Nd} {D : Ds} {path p : ByteArray} {x z : Pt} (hg : x.gr = ⟨ns ++ [⟨path, 1, ⟨#[]⟩⟩], D, p⟩) (h : run [.inFile] x = .yes z) : ∃ n : Nd, n.path = path ∧ fits n.kind n.data.data.toList = true ∧ n.kind ≠ 4 ∧ z.gr = ⟨ns ++ [n], D, p⟩ := by
  obtain ⟨s, g, push, y, _, ht, hy, _, hr⟩ := run_yes h
  rw [hg, take_inFile] at ht
  simp only [lastN_snoc, setN_snoc] at ht
  split at ht
  · injection ht with h1 h2
    subst h1; subst h2
    obtain ⟨y1, e1, _, hr⟩ := run_word hr
    obtain ⟨y2, e2, _, hr⟩ := run_word hr
    obtain ⟨d, hf, hz⟩ := run_data (by rw [e2, e1, hy]) hr
    exact ⟨_, rfl, hf, by simp, hz⟩
  · split at ht
    · injection ht with h1 h2
      subst h1; subst h2
      obtain ⟨d, hf, hz⟩ := run_data hy hr
      exact ⟨_, rfl, hf, by simp, hz⟩
    · cases ht
/-- Directories, with so much left. -/
def DirV (f : Nat) : Prop := ∀ (ns : List Nd) (D : Ds) (q P last p : ByteArray) (x z : Pt), x.left.length < f → x.gr = ⟨ns, D ++ [(P, last)], p⟩ → P = prefixIn q → ns ≠ [] → Ch (D ++ [(P, last)]) → Vt ns (D ++ [(P, last)]) → run [.inDir] x = .yes z → z.gr.dirs = D ∧ z.gr.nodes ≠ [] ∧ Vt z.gr.nodes D
theorem kind_v {f : Nat} (hD : DirV f) {ns : List Nd} {D : Ds} {path p : ByteArray} {x z : Pt} (hx : x.left.length < f) (hg : x.gr = ⟨ns ++ [⟨path, 0, ⟨#[]⟩⟩], D, p⟩) (hA : AddV ns D path) (hc : Ch (D ++ [(prefixIn path, ⟨#[]⟩)])) (h : run [.kind] x = .yes z) : z.gr.dirs = D ∧ z.gr.nodes ≠ [] ∧ Vt z.gr.nodes D := by
  obtain ⟨s, g, push, y, _, ht, hy, hl, hr⟩ := run_yes h
  rw [hg, take_kind] at ht
  simp only [lastN_snoc, setN_snoc] at ht
  have leaf : ∀ n : Nd, n.path = path → fits n.kind n.data.data.toList = true → n.kind ≠ 4 → Vt (ns ++ [n]) D := fun n h1 h2 h3 => ⟨[], by rw [hA n h1 h2, List.append_nil]; simp [enterL, h3]⟩
  split at ht
  · injection ht with h1 h2
    subst h1; subst h2
    obtain ⟨n, n1, n2, n3, hz⟩ := run_file hy hr
    rw [hz]
    exact ⟨rfl, by simp, leaf n n1 n2 n3⟩
  · split at ht
    · injection ht with h1 h2
      subst h1; subst h2
      obtain ⟨y1, e1, _, hr⟩ := run_word hr
      obtain ⟨d, hf, hz⟩ := run_data (by rw [e1, hy]) hr
      rw [hz]
      exact ⟨rfl, by simp, leaf _ rfl hf (by simp)⟩
    · split at ht
      · injection ht with h1 h2
        subst h1; subst h2
        refine hD (ns ++ [⟨path, 4, ⟨#[]⟩⟩]) D path (prefixIn path) ⟨#[]⟩ p y z (by omega) hy rfl (by simp) hc ⟨[], ?_⟩ hr
        rw [hA ⟨path, 4, ⟨#[]⟩⟩ rfl (by simp [fits]), List.append_nil]
        simp [enterL]
      · cases ht
theorem node_v {f : Nat} (hD : DirV f) {ns : List Nd} {D : Ds} {path : ByteArray} {x z : Pt} (hx : x.left.length < f) (hg : x.gr = ⟨ns, D, path⟩) (hA : D.length ≤ 5 → ns.length < 30 → AddV ns D path) (hc : Ch (D ++ [(prefixIn path, ⟨#[]⟩)])) (h : run [.bracket] x = .yes z) : z.gr.dirs = D ∧ z.gr.nodes ≠ [] ∧ Vt z.gr.nodes D := by
  obtain ⟨s, g, push, y, _, ht, hy, hl, hr⟩ := run_yes h
  rw [hg, take_bracket] at ht
  simp only at ht
  split at ht
  · split at ht
    · cases ht
    · split at ht
      · cases ht
      · injection ht with h1 h2
        subst h1; subst h2
        obtain ⟨y1, e1, l1, hr⟩ := run_word hr
        exact kind_v hD (by omega) (by rw [e1, hy]) (hA (by omega) (by omega)) hc hr
  · cases ht
theorem sizeApp (a b : ByteArray) : (a ++ b).size = a.size + b.size := by rw [size_of_data (data_append a b), List.length_append]; simp
theorem dir_v : ∀ f, DirV f
  | 0 => fun _ _ _ _ _ _ x _ hx => by omega
  | f + 1 => by
    intro ns D q P last p x z hx hg hP hne hc hV h
    obtain ⟨s, g, push, y, _, ht, hy, hl, hr⟩ := run_yes h
    rw [hg, take_inDir] at ht
    simp only at ht
    split at ht
    · injection ht with h1 h2
      subst h1; subst h2
      obtain ⟨y1, e1, l1, hr⟩ := run_word hr
      obtain ⟨y2, e2, l2, hr⟩ := run_word hr
      obtain ⟨nm, g3, push3, y3, hnl, ht3, hy3, l3, hr⟩ := run_yes hr
      rw [e2, e1, hy, take_name] at ht3
      simp only [lastD_snoc, setD_snoc] at ht3
      split at ht3
      · cases ht3
      · rename_i hnm
        split at ht3
        · cases ht3
        · rename_i hab
          injection ht3 with h1 h2
          subst h1; subst h2
          obtain ⟨y4, e4, l4, hr⟩ := run_word hr
          have hnm' : isNameB nm.data.toList = true := by simpa using hnm
          have hab' : notAbove nm last = false := by simpa using hab
          have hc' : Ch (D ++ [(P, nm)]) := by
            refine List.pairwise_append.2 ⟨(List.pairwise_append.1 hc).1, by simp, fun a ha b hb => ?_⟩
            rw [List.mem_singleton] at hb
            subst hb
            exact (List.pairwise_append.1 hc).2.2 a ha (P, last) (by simp)
          have hnn : nm.data.toList ≠ [] := isName_ne _ hnm'
          have hns : 0 < nm.size := by
            have : nm.size = nm.data.toList.length := by simp
            rw [this]; exact List.length_pos_iff.2 hnn
          have hpn : (P ++ nm).data.toList ≠ [] := by rw [data_append]; simp [hnn]
          have hc2 : Ch (D ++ [(P, nm)] ++ [(prefixIn (P ++ nm), ⟨#[]⟩)]) := by
            refine List.pairwise_append.2 ⟨hc', by simp, fun a ha b hb => ?_⟩
            rw [List.mem_singleton] at hb
            subst hb
            have hz : (prefixIn (P ++ nm)).size = P.size + nm.size + 1 := by rw [prefixIn_size _ hpn, sizeApp]
            rw [hz]
            rcases List.mem_append.1 ha with ha | ha
            · have := (List.pairwise_append.1 hc).2.2 a ha (P, last) (by simp)
              simp only at this
              omega
            · rw [List.mem_singleton] at ha
              subst ha
              simp only
              omega
          have hr : run ([.bracket] ++ [.word wClose, .inDir]) y4 = .yes z := hr
          rw [run_app] at hr
          cases hb : run [.bracket] y4 with
          | no e p => rw [hb] at hr; cases hr
          | yes y5 =>
            rw [hb] at hr
            have hr : run [.word wClose, .inDir] y5 = .yes z := hr
            have hl5 := run_len _ _ _ hb
            obtain ⟨d1, d2, d3⟩ := node_v (dir_v f) (by omega) (by rw [e4, hy3]) (fun hd hn => addV_in hV hne hn hc (by simpa using hd) hP hnm' hab') hc2 hb
            obtain ⟨y6, e6, l6, hr⟩ := run_word hr
            refine dir_v f y5.gr.nodes D q P nm y5.gr.path y6 z (by omega) ?_ hP d2 hc' d3 hr
            rw [e6]
            cases hy5 : y5.gr
            rw [hy5] at d1
            simp only at d1
            rw [d1]
    · split at ht
      · injection ht with h1 h2
        subst h1; subst h2
        rw [List.nil_append, run_nil] at hr
        injection hr with hr
        subst hr
        rw [hy]
        simp only
        obtain ⟨rest, hrest⟩ := hV
        refine ⟨by simp, hne, (P, last) :: rest, ?_⟩
        rw [hrest]; simp
      · cases ht
/-- WHAT HAS BEEN READ WHOLE IS A TREE. -/
theorem run_tree {x z : Pt} (hg : x.gr = ⟨[], [], ⟨#[]⟩⟩) (h : run [.word wNar, .bracket] x = .yes z) : z.gr.dirs = [] ∧ z.gr.nodes ≠ [] ∧ firstW z.gr.nodes = none := by
  obtain ⟨y, e, l, hr⟩ := run_word h
  obtain ⟨h1, h2, rest, h3⟩ := node_v (dir_v (y.left.length + 1)) (by omega) (by rw [e, hg]) (fun _ _ => addV_root) (by simp [Ch]) hr
  exact ⟨h1, h2, firstW_run _ _ h2 h3⟩
/-- Prefixes are short. -/
def PB (ds : Ds) : Prop := ∀ j (h : j < ds.length), ds[j].1.size ≤ 49 * j
theorem PB.enter {ds : Ds} {a : Nat} (h : PB ds) (ha : ds.length = a) {path : ByteArray} (k : Int) (hp : path.size + 1 ≤ 49 * a ∨ path.data.toList = []) : PB (enterL ds path k) := by
  unfold enterL
  split
  · intro j hj
    rw [List.length_append, List.length_singleton] at hj
    by_cases hj' : j < ds.length
    · rw [List.getElem_append_left hj']; exact h j hj'
    · obtain rfl : j = ds.length := by omega
      rw [List.getElem_append_right (Nat.le_refl _)]
      simp only [Nat.sub_self, List.getElem_cons_zero]
      unfold prefixIn
      split
      · exact Nat.zero_le _
      · rename_i hne
        rcases hp with hp | hp
        · rw [sizeApp, ha]
          exact hp
        · exact absurd hp hne
  · exact h
theorem run_small : ∀ (ns : List Nd) (i : Nat) (ds Z : Ds), PB ds → (i = 0 → ds = []) → runF i ds ns = some Z → (∀ n ∈ ns, n.path.size ≤ 244 ∧ n.data.size ≤ 100) ∧ (ns = [] ∨ i + ns.length ≤ 30)
  | [], _, _, _, _, _, _ => ⟨fun n hn => (by cases hn), .inl rfl⟩
  | n :: r, i, ds, Z, hPB, h0, h => by
    obtain ⟨Dy, hs, hr⟩ := runF_cons h
    unfold stepW at hs
    split at hs
    · rename_i hf
      have hd : n.data.size ≤ 100 := by
        have := fits_data _ _ hf.2
        simpa using this
      have fin : PB Dy → n.path.size ≤ 244 → (∀ m ∈ n :: r, m.path.size ≤ 244 ∧ m.data.size ≤ 100) ∧ (n :: r = [] ∨ i + (n :: r).length ≤ 30) := by
        intro hP' hp
        obtain ⟨h1, h2⟩ := run_small r (i + 1) Dy Z hP' (fun e => by omega) hr
        refine ⟨fun m hm => ?_, .inr ?_⟩
        · rcases List.mem_cons.1 hm with rfl | hm
          · exact ⟨hp, hd⟩
          · exact h1 m hm
        · rcases h2 with rfl | h2
          · have := hf.1
            simp only [List.length_cons, List.length_nil]; omega
          · rw [List.length_cons]; omega
      split at hs
      · rename_i hi
        split at hs
        · rename_i hpe
          injection hs with hs
          subst hs
          have hpe' := empty_of hpe
          have hds := h0 hi
          subst hds
          refine fin (PB.enter hPB rfl _ (.inr (by rw [hpe']))) (by rw [hpe']; exact Nat.zero_le _)
        · cases hs
      · unfold placeRest at hs
        simp only at hs
        split at hs
        · cases hs
        · rename_i ha
          split at hs
          · cases hs
          · rename_i hn
            split at hs
            · cases hs
            · injection hs with hs
              subst hs
              obtain ⟨a, hab⟩ : ∃ a, above ds (pre n.path) = a + 1 := ⟨above ds (pre n.path) - 1, by omega⟩
              obtain ⟨hlt, hge⟩ := above_get ds (pre n.path) a hab
              rw [hab] at ha fin
              have hpz := hPB a hlt
              rw [hge] at hpz
              have hnz := name_len _ (by simpa using hn)
              have hsz : n.path.size = (pre n.path).size + (nam n.path).size := by
                conv => lhs; rw [← pre_nam n.path]
                exact sizeApp _ _
              have hnz' : (nam n.path).size ≤ 48 := by simpa using hnz
              refine fin (PB.enter (a := a + 1) ?_ ?_ _ (.inl (by omega))) (by omega)
              · intro j hj
                have hj' : j < a + 1 := by
                  rw [List.length_set, List.length_take] at hj; omega
                rw [List.getElem_set]
                split
                · rename_i e
                  rw [List.getD_eq_getElem?_getD, Nat.add_sub_cancel, List.getElem?_eq_getElem hlt, Option.getD_some, hge]
                  have : j = a := by omega
                  rw [this]; exact hpz
                · rw [List.getElem_take]
                  exact hPB j (by omega)
              · rw [List.length_set, List.length_take]; omega
    · cases hs
theorem fwGo_none : ∀ (l : List Nd) (i : Nat) (ds : Ds), fwGo i ds l = none → ∃ Z, runF i ds l = some Z
  | [], _, ds, _ => ⟨ds, rfl⟩
  | n :: r, i, ds, h => by
    rw [fwGo_step'] at h
    simp only [runF]
    cases hs : stepW i ds n with
    | none => rw [hs] at h; cases h
    | some d => rw [hs] at h; exact fwGo_none r (i + 1) d h
theorem run_firstW {ns : List Nd} (h : firstW ns = none) : ∃ Z, ns ≠ [] ∧ runF 0 [] ns = some Z := by
  cases ns with
  | nil => cases h
  | cons n r =>
    obtain ⟨Z, hZ⟩ := fwGo_none (n :: r) 0 [] (by simpa [firstW] using h)
    exact ⟨Z, by simp, hZ⟩
/-- A TREE IS SMALL. -/
theorem tree_small {ns : List Nd} (h : firstW ns = none) : ns.length ≤ 30 ∧ ∀ n ∈ ns, n.path.size ≤ 244 ∧ n.data.size ≤ 100 := by
  obtain ⟨Z, hne, hZ⟩ := run_firstW h
  obtain ⟨h1, h2⟩ := run_small ns 0 [] Z (fun j hj => by cases hj) (fun _ => rfl) hZ
  refine ⟨?_, h1⟩
  rcases h2 with rfl | h2
  · simp
  · omega
end Go.Proofs.YtpbjdfobbnpjfaaDoor
