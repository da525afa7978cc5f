import Derived.Test.YticcbaapbnfmmaaDoorRows
import Derived.Test.YticcbaapbnfmmaaDoorP05
import Derived.Test.YticcbaapbnfmmaaDoorP06
import Derived.Test.YticcbaapbnfmmaaDoorP13
import Derived.RangeFuncNested
import Derived.RangeFuncBound
import Derived.RangeFuncCalls
import Derived.RangeFuncLeaves
import Derived.Shelf.Abstract
import Derived.WalkKit
import Derived.OwnWalkIn
import Derived.TacticsInMore
import Derived.LoopNIn
import Derived.LoopIn
import Derived.Laws.EntriesVeiled
import Derived.Laws.BitsAllLaws
import Derived.Lib.BufferOwn
import Derived.RegionTactic
import Derived.Maps.AppendAt
import Derived.Deep.RegionHeld3
import Derived.Deep.RegionLaw
import Derived.Laws.Rows
import Derived.Laws.AppendOwnNone
import Derived.WalkSpells
import Derived.WalkLawsBesides
import Derived.Laws.IdiomStrings
import Derived.Laws.ResultCell
namespace Go.Proofs.YticcbaapbnfmmaaDoor
open Go.RowKit

theorem tabs_B {B : Nat} {w w' : World} (hB : 2 ≤ B) (h : Lib.Utf8Tabs 0 1 w) (hb : Below B w w') : Lib.Utf8Tabs 0 1 w' :=
  ⟨fun c hc => (hb.cell (p := ⟨0, c, none⟩) (by show 0 < B; omega)).trans (h.1 c hc), fun i hi => ⟨(hb.cell (p := ⟨1, 2 * i, none⟩) (by show 1 < B; omega)).trans (h.2 i hi).1, (hb.cell (p := ⟨1, 2 * i + 1, none⟩) (by show 1 < B; omega)).trans (h.2 i hi).2⟩⟩
end Go.Proofs.YticcbaapbnfmmaaDoor
namespace Go.Proofs.YticcbaapbnfmmaaDoor
open Go.RowKit

theorem tabsB {B : Nat} {w w' : World} (hB : 2 ≤ B) (h : Lib.Utf8Tabs 0 1 w) (hb : Below B w w') : Lib.Utf8Tabs 0 1 w' := tabs_B hB h hb
theorem tabs2 {w : World} (h : Lib.Utf8Tabs 0 1 w) : 2 ≤ w.heap.size := by
  have := World.block_lt_of_cell? w ⟨1, 0, none⟩ (h.2 0 (by omega)).1
  simp only at this
  omega
end Go.Proofs.YticcbaapbnfmmaaDoor
namespace Go.Proofs.YticcbaapbnfmmaaDoor
open Go.RowKit

theorem decodeN_slash (n b0 b1 b2 b3 : Nat) (h : badR (Lib.decodeN n b0 b1 b2 b3).1 (Lib.decodeN n b0 b1 b2 b3).2 = false) : b0 ≠ 47 ∧ (1 < (Lib.decodeN n b0 b1 b2 b3).2 → b1 ≠ 47) ∧ (2 < (Lib.decodeN n b0 b1 b2 b3).2 → b2 ≠ 47) ∧ (3 < (Lib.decodeN n b0 b1 b2 b3).2 → b3 ≠ 47) := by
  have dead : ∀ x : Nat × Nat, x = (65533, 1) → badR x.1 x.2 = false → False := fun x e hb => by subst e; simp [badR] at hb
  unfold Lib.decodeN at h ⊢
  by_cases c1 : b0 < 128
  · simp only [if_pos c1] at h ⊢
    simp [badR] at h
    omega
  · by_cases c2 : b0 / 32 = 6 ∧ (1 < n ∧ b1 / 64 = 2)
    · by_cases c3 : b0 % 32 * 64 + b1 % 64 ≥ 128
      · simp only [if_neg c1, if_pos c2, if_pos c3] at h ⊢
        omega
      · simp only [if_neg c1, if_pos c2, if_neg c3] at h
        exact (dead _ rfl h).elim
    · by_cases c4 : b0 / 16 = 14 ∧ (1 < n ∧ b1 / 64 = 2) ∧ (2 < n ∧ b2 / 64 = 2)
      · simp only [if_neg c1, if_neg c2, if_pos c4] at h ⊢
        split at h
        · rename_i c5
          simp only [if_pos c5]
          omega
        · exact (dead _ rfl h).elim
      · by_cases c6 : b0 / 8 = 30 ∧ (1 < n ∧ b1 / 64 = 2) ∧ (2 < n ∧ b2 / 64 = 2) ∧ (3 < n ∧ b3 / 64 = 2)
        · simp only [if_neg c1, if_neg c2, if_neg c4, if_pos c6] at h ⊢
          split at h
          · rename_i c5
            simp only [if_pos c5]
            omega
          · exact (dead _ rfl h).elim
        · simp only [if_neg c1, if_neg c2, if_neg c4, if_neg c6] at h
          exact (dead _ rfl h).elim
theorem letters_slash : ∀ (n : Nat) (l : Bs) (k : Nat), l.length ≤ n → letters l = some k → ¬ (47 : UInt8) ∈ l
  | 0, l, k, h, _ => by
    have : l = [] := List.eq_nil_of_length_eq_zero (by omega)
    subst this; simp
  | n + 1, l, k, h, hk => by
    by_cases hl : l = []
    · subst hl; simp
    · rw [letters_step l hl] at hk
      have hw := Lib.decodeL_width l
      have h4 := decodeL_le4 l
      have hlen : 0 < l.length := List.length_pos_iff.2 hl
      split at hk
      · cases hk
      · rename_i hb
        cases hr : letters (l.drop (Lib.decodeL l).2) with
        | none => rw [hr] at hk; cases hk
        | some j =>
          have ih := letters_slash n _ j (by rw [List.length_drop]; omega) hr
          intro hm
          obtain ⟨i, hi, he⟩ := List.mem_iff_getElem.1 hm
          by_cases hiw : i < (Lib.decodeL l).2
          · have hb' : badR (Lib.decodeL l).1 (Lib.decodeL l).2 = false := by simpa using hb
            unfold Lib.decodeL at hb' hiw h4
            rw [Lib.decode_at] at hb' hiw h4
            have hs := decodeN_slash _ _ _ _ _ hb'
            have hg : ((⟨l.toArray⟩ : ByteArray).get! (0 + i)).toNat = 47 := by
              have : (⟨l.toArray⟩ : ByteArray).get! i = l[i] := by
                show l.toArray[i]! = l[i]
                simp [hi]
              rw [Nat.zero_add, this, he]; rfl
            have : i < 4 := by omega
            match i, this with
            | 0, _ => exact hs.1 hg
            | 1, _ => exact hs.2.1 hiw hg
            | 2, _ => exact hs.2.2.1 hiw hg
            | 3, _ => exact hs.2.2.2 hiw hg
          · apply ih
            rw [List.mem_iff_getElem]
            exact ⟨i - (Lib.decodeL l).2, by rw [List.length_drop]; omega, by rw [List.getElem_drop]; simp only [Nat.add_sub_cancel' (by omega : (Lib.decodeL l).2 ≤ i)]; exact he⟩
theorem name_slash (l : Bs) (h : isNameB l = true) : ¬ (47 : UInt8) ∈ l := by
  unfold isNameB at h
  cases hl : letters l with
  | none => rw [hl] at h; simp at h
  | some n => exact letters_slash _ l n (Nat.le_refl _) hl

theorem ba_eqL {a b : ByteArray} (h : a.data.toList = b.data.toList) : a = b := by
  cases a; cases b
  congr
  exact Array.toList_inj.1 h
theorem exec_len : ∀ (f : Nat) (K : List It) (x y : Pt), exec f K x = .yes y → y.left.length ≤ x.left.length
  | f, [], x, y, h => by
    have h : (Ex.yes x : Ex Pt) = .yes y := by cases f <;> exact h
    injection h with h; subst h; exact Nat.le_refl _
  | 0, _ :: _, x, y, h => by cases h
  | f + 1, i :: K, x, y, h => by
    simp only [exec] at h
    cases ho : one i x with
    | no e p => rw [ho] at h; cases h
    | yes z =>
      rw [ho] at h
      obtain ⟨z, l⟩ := z
      have h1 := one_len ho
      have h2 := exec_len f (l ++ K) z y h
      omega
theorem run_len (K : List It) (x y : Pt) (h : run K x = .yes y) : y.left.length ≤ x.left.length := exec_len _ K x y h
/-- Nodes that the look runs through, with so many directories open behind them. -/
def Vt (ns : List Nd) (D : Ds) : Prop := ∃ rest, runF 0 [] ns = some (D ++ rest)
def Ch (D : Ds) : Prop := D.Pairwise fun a b => a.1.size < b.1.size
/-- A node more, whatever it is. -/
def AddV (ns : List Nd) (D : Ds) (path : ByteArray) : Prop := ∀ n : Nd, n.path = path → fits n.kind n.data.data.toList = true → runF 0 [] (ns ++ [n]) = some (enterL D path n.kind)
theorem addV_root : AddV [] [] ⟨#[]⟩ := by
  rintro ⟨p, k, d⟩ rfl hf
  simp only [List.nil_append, runF, stepW]
  rw [if_pos ⟨by omega, hf⟩, if_pos trivial, if_pos (by rw [ByteArray.toList_eq]; rfl)]
theorem addV_in {ns : List Nd} {D : Ds} {q P last nm : ByteArray} (hV : Vt ns (D ++ [(P, last)])) (hne : ns ≠ []) (hl : ns.length < 30) (hc : Ch (D ++ [(P, last)])) (hD : D.length + 1 ≤ 5) (hP : P = prefixIn q) (hn : isNameB nm.data.toList = true) (ha : notAbove nm last = false) : AddV ns (D ++ [(P, nm)]) (P ++ nm) := by
  rintro ⟨p, k, d⟩ rfl hf
  obtain ⟨rest, hr⟩ := hV
  have hns : ns.length ≠ 0 := fun e => hne (List.eq_nil_of_length_eq_zero e)
  have hpd : (P ++ nm).data.toList = pin q.data.toList ++ nm.data.toList := by rw [data_append, hP, prefixIn_data]
  have hno := name_slash _ hn
  have hpre : pre (P ++ nm) = P := ba_eqL (by rw [pre_data, hpd, preL_path _ _ hno, hP, prefixIn_data])
  have hnam : nam (P ++ nm) = nm := ba_eqL (by rw [nam_data, hpd, namL_path _ _ hno])
  rw [run_snoc, hr]
  simp only [Option.bind_some, Nat.zero_add, stepW]
  rw [if_pos ⟨hl, hf⟩, if_neg hns]
  have hget : (D ++ [(P, last)] ++ rest)[D.length]? = some (P, last) := by simp
  have hab : above (D ++ [(P, last)] ++ rest) P = D.length + 1 := by
    refine above_at _ P D.length (by simp) ?_ ?_
    · have := List.getElem?_eq_some_iff.1 hget
      obtain ⟨h1, h2⟩ := this
      rw [h2]
    · intro j hj hjk e
      have hj' : (D ++ [(P, last)] ++ rest)[j] = D[j] := by simp [hjk]
      rw [hj'] at e
      have := (List.pairwise_append.1 hc).2.2 D[j] (List.getElem_mem _) (P, last) (by simp)
      rw [e] at this
      exact absurd this (Nat.lt_irrefl _)
  unfold placeRest
  simp only [hpre, hnam, hab]
  rw [if_neg (by omega), if_neg (by rw [hn]; simp)]
  have hgD : (D ++ [(P, last)] ++ rest).getD (D.length + 1 - 1) (⟨#[]⟩, ⟨#[]⟩) = (P, last) := by simp [List.getD]
  rw [hgD]
  simp only [ha]
  rw [if_neg (by simp)]
  congr 1
  have htk : (D ++ [(P, last)] ++ rest).take (D.length + 1) = D ++ [(P, last)] := List.take_left' (by simp)
  rw [htk]
  simp
/-- What it means that the first item was taken. -/
theorem run_yes {i : It} {K : List It} {x z : Pt} (h : run (i :: K) x = .yes z) : ∃ (s : ByteArray) (g : Gr) (push : List It) (y : Pt), s.size ≤ i.most ∧ takeF x.gr i s = .more g push ∧ y.gr = g ∧ y.left.length + 8 ≤ x.left.length ∧ run (push ++ K) y = .yes z := by
  rw [run_cons] at h
  cases ho : one i x with
  | no e p => rw [ho] at h; cases h
  | yes y =>
    obtain ⟨y, push⟩ := y
    rw [ho] at h
    have hl := one_len ho
    unfold one at ho
    split at ho
    · cases ho
    · cases ho
    · rename_i s rest n hcut
      split at ho
      · cases ho
      · rename_i g' push' ht
        injection ho with ho
        injection ho with h1 h2
        subst h1
        subst h2
        exact ⟨_, _, _, _, by rw [ba_size]; exact (cutF_len hcut).2.2.2, ht, rfl, hl.1, h⟩
theorem run_word {w : ByteArray} {K : List It} {x z : Pt} (h : run (.word w :: K) x = .yes z) : ∃ y : Pt, y.gr = x.gr ∧ y.left.length + 8 ≤ x.left.length ∧ run K y = .yes z := by
  obtain ⟨s, g, push, y, _, ht, hg, hl, hr⟩ := run_yes h
  rw [take_word] at ht
  split at ht
  · injection ht with h1 h2
    subst h1; subst h2
    exact ⟨y, hg, hl, hr⟩
  · cases ht
theorem run_data {ns : List Nd} {D : Ds} {path p d0 : ByteArray} {k : Int} {x z : Pt} (hg : x.gr = ⟨ns ++ [⟨path, k, d0⟩], D, p⟩) (h : run [.data, .word wClose] x = .yes z) : ∃ d : ByteArray, fits k d.data.toList = true ∧ z.gr = ⟨ns ++ [⟨path, k, d⟩], D, p⟩ := by
  obtain ⟨s, g, push, y, _, ht, hy, _, hr⟩ := run_yes h
  rw [hg, take_data] at ht
  simp only [lastN_snoc, setN_snoc] at ht
  split at ht
  · rename_i hf
    injection ht with h1 h2
    subst h1; subst h2
    obtain ⟨y2, hy2, _, hr2⟩ := run_word hr
    rw [run_nil] at hr2
    injection hr2 with hr2
    subst hr2
    exact ⟨s, hf, by rw [hy2, hy]⟩
  · cases ht
theorem run_file {ns : List Nd} {D : Ds} {path p : ByteArray} {x z : Pt} (hg : x.gr = ⟨ns ++ [⟨path, 1, ⟨#[]⟩⟩], D, p⟩) (h : run [.inFile] x = .yes z) : ∃ n : Nd, n.path = path ∧ fits n.kind n.data.data.toList = true ∧ n.kind ≠ 4 ∧ z.gr = ⟨ns ++ [n], D, p⟩ := by
  obtain ⟨s, g, push, y, _, ht, hy, _, hr⟩ := run_yes h
  rw [hg, take_inFile] at ht
  simp only [lastN_snoc, setN_snoc] at ht
  split at ht
  · injection ht with h1 h2
    subst h1; subst h2
    obtain ⟨y1, e1, _, hr⟩ := run_word hr
    obtain ⟨y2, e2, _, hr⟩ := run_word hr
    obtain ⟨d, hf, hz⟩ := run_data (by rw [e2, e1, hy]) hr
    exact ⟨_, rfl, hf, by simp, hz⟩
  · split at ht
    · injection ht with h1 h2
      subst h1; subst h2
      obtain ⟨d, hf, hz⟩ := run_data hy hr
      exact ⟨_, rfl, hf, by simp, hz⟩
    · cases ht
/-- Directories, with so much left. -/
def DirV (f : Nat) : Prop := ∀ (ns : List Nd) (D : Ds) (q P last p : ByteArray) (x z : Pt), x.left.length < f → x.gr = ⟨ns, D ++ [(P, last)], p⟩ → P = prefixIn q → ns ≠ [] → Ch (D ++ [(P, last)]) → Vt ns (D ++ [(P, last)]) → run [.inDir] x = .yes z → z.gr.dirs = D ∧ z.gr.nodes ≠ [] ∧ Vt z.gr.nodes D
theorem kind_v {f : Nat} (hD : DirV f) {ns : List Nd} {D : Ds} {path p : ByteArray} {x z : Pt} (hx : x.left.length < f) (hg : x.gr = ⟨ns ++ [⟨path, 0, ⟨#[]⟩⟩], D, p⟩) (hA : AddV ns D path) (hc : Ch (D ++ [(prefixIn path, ⟨#[]⟩)])) (h : run [.kind] x = .yes z) : z.gr.dirs = D ∧ z.gr.nodes ≠ [] ∧ Vt z.gr.nodes D := by
  obtain ⟨s, g, push, y, _, ht, hy, hl, hr⟩ := run_yes h
  rw [hg, take_kind] at ht
  simp only [lastN_snoc, setN_snoc] at ht
  have leaf : ∀ n : Nd, n.path = path → fits n.kind n.data.data.toList = true → n.kind ≠ 4 → Vt (ns ++ [n]) D := fun n h1 h2 h3 => ⟨[], by rw [hA n h1 h2, List.append_nil]; simp [enterL, h3]⟩
  split at ht
  · injection ht with h1 h2
    subst h1; subst h2
    obtain ⟨n, n1, n2, n3, hz⟩ := run_file hy hr
    rw [hz]
    exact ⟨rfl, by simp, leaf n n1 n2 n3⟩
  · split at ht
    · injection ht with h1 h2
      subst h1; subst h2
      obtain ⟨y1, e1, _, hr⟩ := run_word hr
      obtain ⟨d, hf, hz⟩ := run_data (by rw [e1, hy]) hr
      rw [hz]
      exact ⟨rfl, by simp, leaf _ rfl hf (by simp)⟩
    · split at ht
      · injection ht with h1 h2
        subst h1; subst h2
        refine hD (ns ++ [⟨path, 4, ⟨#[]⟩⟩]) D path (prefixIn path) ⟨#[]⟩ p y z (by omega) hy rfl (by simp) hc ⟨[], ?_⟩ hr
        rw [hA ⟨path, 4, ⟨#[]⟩⟩ rfl (by simp [fits]), List.append_nil]
        simp [enterL]
      · cases ht
theorem node_v {f : Nat} (hD : DirV f) {ns : List Nd} {D : Ds} {path : ByteArray} {x z : Pt} (hx : x.left.length < f) (hg : x.gr = ⟨ns, D, path⟩) (hA : D.length ≤ 5 → ns.length < 30 → AddV ns D path) (hc : Ch (D ++ [(prefixIn path, ⟨#[]⟩)])) (h : run [.bracket] x = .yes z) : z.gr.dirs = D ∧ z.gr.nodes ≠ [] ∧ Vt z.gr.nodes D := by
  obtain ⟨s, g, push, y, _, ht, hy, hl, hr⟩ := run_yes h
  rw [hg, take_bracket] at ht
  simp only at ht
  split at ht
  · split at ht
    · cases ht
    · split at ht
      · cases ht
      · injection ht with h1 h2
        subst h1; subst h2
        obtain ⟨y1, e1, l1, hr⟩ := run_word hr
        exact kind_v hD (by omega) (by rw [e1, hy]) (hA (by omega) (by omega)) hc hr
  · cases ht
theorem sizeApp (a b : ByteArray) : (a ++ b).size = a.size + b.size := by rw [size_of_data (data_append a b), List.length_append]; simp
theorem dir_v : ∀ f, DirV f
  | 0 => fun _ _ _ _ _ _ x _ hx => by omega
  | f + 1 => by
    intro ns D q P last p x z hx hg hP hne hc hV h
    obtain ⟨s, g, push, y, _, ht, hy, hl, hr⟩ := run_yes h
    rw [hg, take_inDir] at ht
    simp only at ht
    split at ht
    · injection ht with h1 h2
      subst h1; subst h2
      obtain ⟨y1, e1, l1, hr⟩ := run_word hr
      obtain ⟨y2, e2, l2, hr⟩ := run_word hr
      obtain ⟨nm, g3, push3, y3, hnl, ht3, hy3, l3, hr⟩ := run_yes hr
      rw [e2, e1, hy, take_name] at ht3
      simp only [lastD_snoc, setD_snoc] at ht3
      split at ht3
      · cases ht3
      · rename_i hnm
        split at ht3
        · cases ht3
        · rename_i hab
          injection ht3 with h1 h2
          subst h1; subst h2
          obtain ⟨y4, e4, l4, hr⟩ := run_word hr
          have hnm' : isNameB nm.data.toList = true := by simpa using hnm
          have hab' : notAbove nm last = false := by simpa using hab
          have hc' : Ch (D ++ [(P, nm)]) := by
            refine List.pairwise_append.2 ⟨(List.pairwise_append.1 hc).1, by simp, fun a ha b hb => ?_⟩
            rw [List.mem_singleton] at hb
            subst hb
            exact (List.pairwise_append.1 hc).2.2 a ha (P, last) (by simp)
          have hnn : nm.data.toList ≠ [] := isName_ne _ hnm'
          have hns : 0 < nm.size := by
            have : nm.size = nm.data.toList.length := by simp
            rw [this]; exact List.length_pos_iff.2 hnn
          have hpn : (P ++ nm).data.toList ≠ [] := by rw [data_append]; simp [hnn]
          have hc2 : Ch (D ++ [(P, nm)] ++ [(prefixIn (P ++ nm), ⟨#[]⟩)]) := by
            refine List.pairwise_append.2 ⟨hc', by simp, fun a ha b hb => ?_⟩
            rw [List.mem_singleton] at hb
            subst hb
            have hz : (prefixIn (P ++ nm)).size = P.size + nm.size + 1 := by rw [prefixIn_size _ hpn, sizeApp]
            rw [hz]
            rcases List.mem_append.1 ha with ha | ha
            · have := (List.pairwise_append.1 hc).2.2 a ha (P, last) (by simp)
              simp only at this
              omega
            · rw [List.mem_singleton] at ha
              subst ha
              simp only
              omega
          have hr : run ([.bracket] ++ [.word wClose, .inDir]) y4 = .yes z := hr
          rw [run_app] at hr
          cases hb : run [.bracket] y4 with
          | no e p => rw [hb] at hr; cases hr
          | yes y5 =>
            rw [hb] at hr
            have hr : run [.word wClose, .inDir] y5 = .yes z := hr
            have hl5 := run_len _ _ _ hb
            obtain ⟨d1, d2, d3⟩ := node_v (dir_v f) (by omega) (by rw [e4, hy3]) (fun hd hn => addV_in hV hne hn hc (by simpa using hd) hP hnm' hab') hc2 hb
            obtain ⟨y6, e6, l6, hr⟩ := run_word hr
            refine dir_v f y5.gr.nodes D q P nm y5.gr.path y6 z (by omega) ?_ hP d2 hc' d3 hr
            rw [e6]
            cases hy5 : y5.gr
            rw [hy5] at d1
            simp only at d1
            rw [d1]
    · split at ht
      · injection ht with h1 h2
        subst h1; subst h2
        rw [List.nil_append, run_nil] at hr
        injection hr with hr
        subst hr
        rw [hy]
        simp only
        obtain ⟨rest, hrest⟩ := hV
        refine ⟨by simp, hne, (P, last) :: rest, ?_⟩
        rw [hrest]; simp
      · cases ht
/-- WHAT HAS BEEN READ WHOLE IS A TREE. -/
theorem run_tree {x z : Pt} (hg : x.gr = ⟨[], [], ⟨#[]⟩⟩) (h : run [.word wNar, .bracket] x = .yes z) : z.gr.dirs = [] ∧ z.gr.nodes ≠ [] ∧ firstW z.gr.nodes = none := by
  obtain ⟨y, e, l, hr⟩ := run_word h
  obtain ⟨h1, h2, rest, h3⟩ := node_v (dir_v (y.left.length + 1)) (by omega) (by rw [e, hg]) (fun _ _ => addV_root) (by simp [Ch]) hr
  exact ⟨h1, h2, firstW_run _ _ h2 h3⟩
/-- Prefixes are short. -/
def PB (ds : Ds) : Prop := ∀ j (h : j < ds.length), ds[j].1.size ≤ 49 * j
theorem PB.enter {ds : Ds} {a : Nat} (h : PB ds) (ha : ds.length = a) {path : ByteArray} (k : Int) (hp : path.size + 1 ≤ 49 * a ∨ path.data.toList = []) : PB (enterL ds path k) := by
  unfold enterL
  split
  · intro j hj
    rw [List.length_append, List.length_singleton] at hj
    by_cases hj' : j < ds.length
    · rw [List.getElem_append_left hj']; exact h j hj'
    · obtain rfl : j = ds.length := by omega
      rw [List.getElem_append_right (Nat.le_refl _)]
      simp only [Nat.sub_self, List.getElem_cons_zero]
      unfold prefixIn
      split
      · exact Nat.zero_le _
      · rename_i hne
        rcases hp with hp | hp
        · rw [sizeApp, ha]
          exact hp
        · exact absurd hp hne
  · exact h
theorem run_small : ∀ (ns : List Nd) (i : Nat) (ds Z : Ds), PB ds → (i = 0 → ds = []) → runF i ds ns = some Z → (∀ n ∈ ns, n.path.size ≤ 244 ∧ n.data.size ≤ 100) ∧ (ns = [] ∨ i + ns.length ≤ 30)
  | [], _, _, _, _, _, _ => ⟨fun n hn => (by cases hn), .inl rfl⟩
  | n :: r, i, ds, Z, hPB, h0, h => by
    obtain ⟨Dy, hs, hr⟩ := runF_cons h
    unfold stepW at hs
    split at hs
    · rename_i hf
      have hd : n.data.size ≤ 100 := by
        have := fits_data _ _ hf.2
        simpa using this
      have fin : PB Dy → n.path.size ≤ 244 → (∀ m ∈ n :: r, m.path.size ≤ 244 ∧ m.data.size ≤ 100) ∧ (n :: r = [] ∨ i + (n :: r).length ≤ 30) := by
        intro hP' hp
        obtain ⟨h1, h2⟩ := run_small r (i + 1) Dy Z hP' (fun e => by omega) hr
        refine ⟨fun m hm => ?_, .inr ?_⟩
        · rcases List.mem_cons.1 hm with rfl | hm
          · exact ⟨hp, hd⟩
          · exact h1 m hm
        · rcases h2 with rfl | h2
          · have := hf.1
            simp only [List.length_cons, List.length_nil]; omega
          · rw [List.length_cons]; omega
      split at hs
      · rename_i hi
        split at hs
        · rename_i hpe
          injection hs with hs
          subst hs
          have hpe' := empty_of hpe
          have hds := h0 hi
          subst hds
          refine fin (PB.enter hPB rfl _ (.inr (by rw [hpe']))) (by rw [hpe']; exact Nat.zero_le _)
        · cases hs
      · unfold placeRest at hs
        simp only at hs
        split at hs
        · cases hs
        · rename_i ha
          split at hs
          · cases hs
          · rename_i hn
            split at hs
            · cases hs
            · injection hs with hs
              subst hs
              obtain ⟨a, hab⟩ : ∃ a, above ds (pre n.path) = a + 1 := ⟨above ds (pre n.path) - 1, by omega⟩
              obtain ⟨hlt, hge⟩ := above_get ds (pre n.path) a hab
              rw [hab] at ha fin
              have hpz := hPB a hlt
              rw [hge] at hpz
              have hnz := name_len _ (by simpa using hn)
              have hsz : n.path.size = (pre n.path).size + (nam n.path).size := by
                conv => lhs; rw [← pre_nam n.path]
                exact sizeApp _ _
              have hnz' : (nam n.path).size ≤ 48 := by simpa using hnz
              refine fin (PB.enter (a := a + 1) ?_ ?_ _ (.inl (by omega))) (by omega)
              · intro j hj
                have hj' : j < a + 1 := by
                  rw [List.length_set, List.length_take] at hj; omega
                rw [List.getElem_set]
                split
                · rename_i e
                  rw [List.getD_eq_getElem?_getD, Nat.add_sub_cancel, List.getElem?_eq_getElem hlt, Option.getD_some, hge]
                  have : j = a := by omega
                  rw [this]; exact hpz
                · rw [List.getElem_take]
                  exact hPB j (by omega)
              · rw [List.length_set, List.length_take]; omega
    · cases hs
theorem fwGo_none : ∀ (l : List Nd) (i : Nat) (ds : Ds), fwGo i ds l = none → ∃ Z, runF i ds l = some Z
  | [], _, ds, _ => ⟨ds, rfl⟩
  | n :: r, i, ds, h => by
    rw [fwGo_step'] at h
    simp only [runF]
    cases hs : stepW i ds n with
    | none => rw [hs] at h; cases h
    | some d => rw [hs] at h; exact fwGo_none r (i + 1) d h
theorem run_firstW {ns : List Nd} (h : firstW ns = none) : ∃ Z, ns ≠ [] ∧ runF 0 [] ns = some Z := by
  cases ns with
  | nil => cases h
  | cons n r =>
    obtain ⟨Z, hZ⟩ := fwGo_none (n :: r) 0 [] (by simpa [firstW] using h)
    exact ⟨Z, by simp, hZ⟩
/-- A TREE IS SMALL. -/
theorem tree_small {ns : List Nd} (h : firstW ns = none) : ns.length ≤ 30 ∧ ∀ n ∈ ns, n.path.size ≤ 244 ∧ n.data.size ≤ 100 := by
  obtain ⟨Z, hne, hZ⟩ := run_firstW h
  obtain ⟨h1, h2⟩ := run_small ns 0 [] Z (fun j hj => by cases hj) (fun _ => rfl) hZ
  refine ⟨?_, h1⟩
  rcases h2 with rfl | h2
  · simp
  · omega
end Go.Proofs.YticcbaapbnfmmaaDoor
namespace Go.Proofs.YticcbaapbnfmmaaDoor
open Go.RowKit Go.Maps
theorem own_new {w : World} {base size n : Nat} {e : TypeId} {v : Value} {xs : List Value} (h : w.ownsRow base e size v n xs) : ∀ x n' c', v = .slice (some x) n' c' → base ≤ x.block := by
  intro x n' c' hv
  rcases h.2 with ⟨rfl, _⟩ | ⟨g, cap, _, hv', hg, _⟩
  · cases hv
  · rw [hv'] at hv
    injection hv with h1 _ _
    injection h1 with h1
    subst h1
    exact hg
end Go.Proofs.YticcbaapbnfmmaaDoor
namespace Go.Proofs.YticcbaapbnfmmaaDoor
open Go.RowKit

/-- Where a list lies. -/
def FootV (F : Nat → Prop) (v : Value) : Prop := ∀ ad n c, v = .slice (some ad) n c → F ad.block
def Foot (F : Nat → Prop) (v : Value) : Prop := ∀ t a n c, v = .agg #[t, .slice a n c] → FootV F (.slice a n c)
theorem FootV.mono {F F' : Nat → Prop} {v : Value} (h : FootV F v) (hF : ∀ k, F k → F' k) : FootV F' v := fun ad n c e => hF _ (h ad n c e)
theorem Foot.mono {F F' : Nat → Prop} {v : Value} (h : Foot F v) (hF : ∀ k, F k → F' k) : Foot F' v := fun t a n c e => (h t a n c e).mono hF
def PStF (F : Nat → Prop) (w : World) (b : Nat) (S : List Ent) : Prop := ∃ L, MapAt w b L ∧ EntsAt w L S ∧ ∀ x ∈ L, Foot (fun k => F k ∧ k < w.heap.size) x.2
theorem PStF.st {F : Nat → Prop} {w : World} {b : Nat} {S : List Ent} (h : PStF F w b S) : PSt w b S := by
  obtain ⟨L, h1, h2, _⟩ := h
  exact ⟨L, h1, h2⟩
theorem PStF.lt {F : Nat → Prop} {w : World} {b : Nat} {S : List Ent} (h : PStF F w b S) : b < w.heap.size := h.st.lt
theorem PStF.below {F : Nat → Prop} {w w' : World} {b : Nat} {S : List Ent} (h : PStF F w b S) (hb : Below w.heap.size w w') : PStF F w' b S := by
  obtain ⟨L, h1, h2, h3⟩ := h
  exact ⟨L, h1.blk (hb.block _ (World.ownsMap.lt h1)), h2.mono (fun v ss hs => hs.below hb), fun x hx => (h3 x hx).mono fun k hk => ⟨hk.1, Nat.lt_of_lt_of_le hk.2 hb.size⟩⟩
theorem own_newF {F : Nat → Prop} {w : World} {base size n : Nat} {e : TypeId} {v : Value} {xs : List Value} (h : w.ownsRow base e size v n xs) (hF : ∀ k, base ≤ k → F k) : FootV (fun k => F k ∧ k < w.heap.size) v := fun ad n' c' e' => ⟨hF _ (own_new h ad n' c' e'), (h.lt _ (by rw [e']; rfl)).2⟩
theorem insK_memF {x y : Bs × Value} : ∀ {L : List (Bs × Value)}, y ∈ insK x L → y = x ∨ y ∈ L := insK_mem.1
theorem put_entF (F : Nat → Prop) (b : Nat) (S : List Ent) (x : Ent) (a : Option Addr) (n c : Nat) (w : World) (h : PStF F w b S) (hfo : FootV (fun k => F k ∧ k < w.heap.size) (.slice a n c)) (hx : SliceS w (.slice a n c) x.refs) (hl : x.refs.length ≤ 1000000000) (hS : ∀ e ∈ S, e.refs.length ≤ 1000000000) (hs : x.path.size ≤ 1000000000) :
    Calls Tryd.prog 23 #[.map (some b), .string x.path, .agg #[.string (packB x.nodes), .slice a n c]] w fun e w' => e = .returned (.int .i64 (putS S x).1) ∧ PStF F w' b (putS S x).2 ∧ Wrote b w w' := by
  have h0 := h
  obtain ⟨L, h1, h2, h3⟩ := h
  have hblt := World.ownsMap.lt h1
  have hlen := h2.length
  have hf := h2.find x.path
  unfold putS
  cases hfS : findS S x.path with
  | some e =>
    rw [hfS] at hf
    obtain ⟨a0, n0, c0, hf, hy⟩ := hf
    have hmem : e ∈ S := List.mem_of_find?_eq_some hfS
    refine (put_there b L x.path (packB x.nodes) (packB e.nodes) a a0 n c n0 c0 x.refs e.refs w h1 hf hx hy hl (hS e hmem) hs).mono ?_
    rintro en w' ⟨rfl, hb⟩
    exact ⟨rfl, h0.below hb, Wrote.of hblt hb⟩
  | none =>
    rw [hfS] at hf
    simp only at hf
    by_cases hfull : 10 ≤ S.length
    · simp only [if_pos hfull]
      refine (put_full b L x.path (packB x.nodes) a n c w h1 hf (by omega) hs).mono ?_
      rintro en w' ⟨rfl, hb⟩
      exact ⟨rfl, h0.below hb, Wrote.of hblt hb⟩
    · simp only [if_neg hfull]
      refine (put_new b L x.path (packB x.nodes) a n c w h1 hf (by omega) hs).mono ?_
      rintro en w' ⟨rfl, hm, hk, hB⟩
      refine ⟨rfl, ⟨_, hm, EntsAt.ins ⟨rfl, a, n, c, rfl, hx.kb h1 hk⟩ (h2.mono (fun v ss hs => hs.kb h1 hk)), fun y hy => ?_⟩, hk, hB⟩
      rcases insK_memF hy with rfl | hy
      · intro t a' n' c' e'
        injection e' with e'
        injection e' with e'
        injection e' with e1 e2
        injection e2 with e2 _
        rw [← e2]; exact hfo.mono fun k hk' => ⟨hk'.1, Nat.lt_of_lt_of_le hk'.2 hk.size⟩
      · exact (h3 y hy).mono fun k hk' => ⟨hk'.1, Nat.lt_of_lt_of_le hk'.2 hk.size⟩
set_option maxRecDepth 20000 in
set_option maxHeartbeats 2000000 in
theorem InsertF_any (F : Nat → Prop) (b : Nat) (S : List Ent) (x : Ent) (vn vr : Value) (w : World) (h : PStF F w b S) (hF : ∀ k, w.heap.size ≤ k → F k) (hT : Lib.Utf8Tabs 0 1 w) (hn : SliceN w vn x.nodes) (hsm : Small x.nodes) (hr : SliceS w vr x.refs) (hl : x.refs.length ≤ 1000000) (hrs : ∀ r ∈ x.refs, r.size ≤ 1000000000) (hS : ∀ e ∈ S, e.refs.length ≤ 1000000000) (hs : x.path.size ≤ 1000000000) :
    Calls Tryd.prog 13 #[.map (some b), .string x.path, vn, vr] w fun e w' => e = .returned (.int .i64 (insertF S x).1) ∧ PStF F w' b (insertF S x).2 ∧ Wrote b w w' := by
  have hblt := h.lt
  obtain ⟨R, hR⟩ : ∃ R, insertF S x = R := ⟨_, rfl⟩
  rw [hR]
  unfold insertF at hR
  have hb0 := ((Below.refl _ w).alloc (Nat.le_refl _) (.cells #[.map (some b)] 39)).alloc (by simp) (.cells #[.string x.path] 9)
  have cI := hide (isPath_any x.path ((w.alloc (.cells #[.map (some b)] 39)).alloc (.cells #[.string x.path] 9)) hs)
  have hm0 : ((w.alloc (.cells #[.map (some b)] 39)).alloc (.cells #[.string x.path] 9)).heap[w.heap.size]? = some (.cells #[.map (some b)] 39 (0, 0)) := block_keep _ (block_new w _)
  have hp0 : ((w.alloc (.cells #[.map (some b)] 39)).alloc (.cells #[.string x.path] 9)).heap[w.heap.size + 1]? = some (.cells #[.string x.path] 9 (0, 0)) := by
    have := block_new (w.alloc (.cells #[.map (some b)] 39)) (.cells #[.string x.path] 9)
    rwa [World.size_alloc] at this
  have cP := hide (treePack_any vn x.nodes _ (Utf8Tabs_below hT hb0) (hn.below hb0) hsm)
  have HB0 := hide hb0
  have HM0 := hide hm0
  have HP0 := hide hp0
  have H := hide h
  have HF := hide hF
  have HR := hide hr
  have HRS := hide hrs
  have HSS := hide hS
  cases hpath : isPathB x.path.data.toList with
  | false =>
    rw [hpath, if_pos rfl] at hR
    rw [hpath] at cI
    subst hR
    clear hb0 hm0 hp0 h hF hr hn hT cP
    go_enter Tryd.func13, Tryd.ntmps13
    go_wp2_with fail
    refine cI.out.mono ?_
    rintro e w1 ⟨rfl, rfl⟩
    go_wp2
    go_ret
    exact ⟨rfl, H.out.below HB0.out, Wrote.of hblt HB0.out⟩
  | true =>
    rw [hpath, if_neg (by simp)] at hR
    rw [hpath] at cI
    cases hw : firstW x.nodes with
    | some k =>
      rw [hw, if_pos (by simp)] at hR
      subst hR
      rw [packRes_some hw] at cP
      clear hb0 hm0 hp0 h hF hr hn hT hw
      go_enter Tryd.func13, Tryd.ntmps13
      go_wp2_with fail
      refine cI.out.mono ?_
      rintro e w1 ⟨rfl, rfl⟩
      go_wp2_with fail
      refine cP.out.mono ?_
      rintro e w2 ⟨rfl, hb2⟩
      have hb2' := HB0.out.trans (hb2.mono HB0.out.size)
      go_wp2
      go_ret
      exact ⟨rfl, H.out.below hb2', Wrote.of hblt hb2'⟩
    | none =>
      rw [hw, if_neg (by simp)] at hR
      rw [packRes_none hw] at cP
      clear hb0 hm0 hp0 h hF hr hn hT hw
      go_enter Tryd.func13, Tryd.ntmps13
      go_wp2_with fail
      refine cI.out.mono ?_
      rintro e w1 ⟨rfl, rfl⟩
      go_wp2_with fail
      refine cP.out.mono ?_
      rintro e w2 ⟨rfl, hb2⟩
      have HB2 := hide (HB0.out.trans (hb2.mono HB0.out.size))
      have HM2 := hide ((hb2.block _ (lt_of_block HM0.out)).trans HM0.out)
      have HP2 := hide ((hb2.block _ (lt_of_block HP0.out)).trans HP0.out)
      have cR := hide (rise_any vr x.refs w2 (HR.out.below HB2.out) (by omega))
      clear cP cI hb2 HM0 HP0 HB0
      have hmf : ∀ (fn : Fn) (first cap : Array Value) (w : World), (Instr.makeFunc fn first cap).run Tryd.prog w = .ok (.func fn first cap) w := fun _ _ _ _ => rfl
      have c5 : w2.cell? ⟨w.heap.size + 1, 0, none⟩ = some (.string x.path) := by simp [World.cell?, HP2.out]
      have c4 : w2.cell? ⟨w.heap.size, 0, none⟩ = some (.map (some b)) := by simp [World.cell?, HM2.out]
      cases hrise : riseL x.refs with
      | false =>
        rw [hrise, if_pos rfl] at hR
        rw [hrise] at cR
        subst hR
        go_wp2_with fail
        refine cR.out.mono ?_
        rintro e w3 ⟨rfl, hb3⟩
        have hb3' := HB2.out.trans (hb3.mono HB2.out.size)
        go_wp2
        go_ret
        exact ⟨rfl, H.out.below hb3', Wrote.of hblt hb3'⟩
      | true =>
        rw [hrise, if_neg (by simp)] at hR
        rw [hrise] at cR
        go_wp2_with fail
        refine cR.out.mono ?_
        rintro e w3 ⟨rfl, hb3⟩
        have HB3 := hide (HB2.out.trans (hb3.mono HB2.out.size))
        have HM3 := hide ((hb3.block _ (lt_of_block HM2.out)).trans HM2.out)
        have HP3 := hide ((hb3.block _ (lt_of_block HP2.out)).trans HP2.out)
        clear c5 c4 cR hb3
        have cC := hide (ContainsFunc_two vr x.refs (.pointer (some ⟨w.heap.size, 0, none⟩)) (.pointer (some ⟨w.heap.size + 1, 0, none⟩)) 21 (lackS S x.path) w3 (HR.out.below HB3.out) (by omega) (fun args w => by kernel_rfl) (fun r hr w4 hb4 => by
          obtain ⟨L, h1, h2⟩ := (H.out.st.below HB3.out).below hb4
          have := noRef_any (w.heap.size + 1) w.heap.size b x.path r L w4 ((hb4.block _ (lt_of_block HP3.out)).trans HP3.out) ((hb4.block _ (lt_of_block HM3.out)).trans HM3.out) h1 h2.ents (HRS.out r hr)
          rw [h2.none] at this
          exact this))
        have c5 : w3.cell? ⟨w.heap.size + 1, 0, none⟩ = some (.string x.path) := by simp [World.cell?, HP3.out]
        have c4 : w3.cell? ⟨w.heap.size, 0, none⟩ = some (.map (some b)) := by simp [World.cell?, HM3.out]
        cases hany : x.refs.any (lackS S x.path) with
        | true =>
          rw [hany, if_pos rfl] at hR
          rw [hany] at cC
          subst hR
          go_wp2_with fail
          refine cC.out.mono ?_
          rintro e w4 ⟨rfl, hb4⟩
          have hb4' := HB3.out.trans (hb4.mono HB3.out.size)
          go_wp2
          go_ret
          exact ⟨rfl, H.out.below hb4', Wrote.of hblt hb4'⟩
        | false =>
          rw [hany, if_neg (by simp)] at hR
          rw [hany] at cC
          subst hR
          go_wp2_with fail
          refine cC.out.mono ?_
          rintro e w4 ⟨rfl, hb4⟩
          have HB4 := hide (HB3.out.trans (hb4.mono HB3.out.size))
          have HM4 := hide ((hb4.block _ (lt_of_block HM3.out)).trans HM3.out)
          have HP4 := hide ((hb4.block _ (lt_of_block HP3.out)).trans HP3.out)
          clear c5 c4 cC hb4
          have c5 : w4.cell? ⟨w.heap.size + 1, 0, none⟩ = some (.string x.path) := by simp [World.cell?, HP4.out]
          have c4 : w4.cell? ⟨w.heap.size, 0, none⟩ = some (.map (some b)) := by simp [World.cell?, HM4.out]
          go_wp2
          go_region_with (first
            | (go_at_call 24; refine (copied_any vr x.refs _ (HR.out.below (HB4.out.drew)) (by omega) HRS.out).mono ?_; rintro e w5 ⟨v5, rfl, hown5, hb5⟩; have hS5 := own_strs hown5; have HNEW := hide (own_newF hown5 (fun k hk => HF.out k (Nat.le_trans HB4.out.size hk))); obtain ⟨a5, cap5, rfl, hc5⟩ := own_sl hown5; have hb5' := hide (HB4.out.drew.trans (hb5.mono HB4.out.drew.size)); have HM5 := hide ((hb5.block _ (lt_of_block HM4.out)).trans HM4.out); have HP5 := hide ((hb5.block _ (lt_of_block HP4.out)).trans HP4.out); have c55 : w5.cell? ⟨w.heap.size + 1, 0, none⟩ = some (.string x.path) := (by simp [World.cell?, HP5.out]); have c45 : w5.cell? ⟨w.heap.size, 0, none⟩ = some (.map (some b)) := (by simp [World.cell?, HM5.out]); have HS5 := hide hS5; clear hown5 hb5 hS5)
            | (go_at_call 23; refine (put_entF F b S x a5 x.refs.length cap5 w5 (H.out.below hb5'.out) HNEW.out HS5.out (by omega) HSS.out hs).mono ?_; rintro e w6 ⟨rfl, hP6, hW6⟩))
          all_goals
            go_wp2
            go_ret
            exact ⟨rfl, hP6, (Wrote.of hblt hb5'.out).trans hW6⟩
/-- A store of the program's, and where its lists lie. -/
def NStF (F : Nat → Prop) (w : World) (q b : Nat) (S : List Ent) : Prop := w.heap[q]? = some (.cells #[.map (some b)] 42 (0, 0)) ∧ PStF F w b S
theorem NStF.st {F : Nat → Prop} {w : World} {q b : Nat} {S : List Ent} (h : NStF F w q b S) : NSt w q b S := ⟨h.1, h.2.st⟩
theorem NStF.wrote {F : Nat → Prop} {w w' : World} {q b : Nat} {S S' : List Ent} (h : NStF F w q b S) (hW : Wrote b w w') (hP : PStF F w' b S') : NStF F w' q b S' := ⟨(h.st.wrote hW hP.st).1, hP⟩
set_option maxRecDepth 20000 in
set_option maxHeartbeats 2000000 in
theorem narInsertF_any (F : Nat → Prop) (q b : Nat) (S : List Ent) (x : Ent) (vn vr : Value) (w : World) (h : NStF F w q b S) (hF : ∀ k, w.heap.size ≤ k → F k) (hT : Lib.Utf8Tabs 0 1 w) (hn : SliceN w vn x.nodes) (hsm : Small x.nodes) (hr : SliceS w vr x.refs) (hl : x.refs.length ≤ 1000000) (hrs : ∀ r ∈ x.refs, r.size ≤ 1000000000) (hS : ∀ e ∈ S, e.refs.length ≤ 1000000000) (hs : x.path.size ≤ 1000000000) :
    Calls Tryd.prog 9 #[.pointer (some ⟨q, 0, none⟩), .string x.path, vn, vr] w fun e w' => e = .returned (.int .i64 (insertF S x).1) ∧ NStF F w' q b (insertF S x).2 ∧ Wrote b w w' := by
  have cE := hide (entries_any q b w h.1)
  have cI := hide (InsertF_any F b S x vn vr w h.2 hF hT hn hsm hr hl hrs hS hs)
  have H := hide h
  clear h hT hn hr
  go_enter Tryd.func9, Tryd.ntmps9
  go_wp2_with fail
  refine cE.out.mono ?_
  rintro e w1 ⟨rfl, rfl⟩
  go_wp2_with fail
  refine cI.out.mono ?_
  rintro e w2 ⟨rfl, hP, hW⟩
  go_wp2
  go_ret
  exact ⟨rfl, H.out.wrote hW hP, hW⟩
end Go.Proofs.YticcbaapbnfmmaaDoor
