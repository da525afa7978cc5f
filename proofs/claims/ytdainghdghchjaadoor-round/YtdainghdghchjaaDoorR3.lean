/-
  MATHEMATICS of the reader, 3: a tree's bytes read as that tree.
-/
import Derived.Test.YtdainghdghchjaaDoorR2
namespace Go.Proofs.YtdainghdghchjaaDoor
open Go.RowKit

theorem decodeN_le4 (n b0 b1 b2 b3 : Nat) : (Lib.decodeN n b0 b1 b2 b3).2 ≤ 4 := by
  unfold Lib.decodeN
  repeat' split
  all_goals simp
theorem decodeL_le4 (l : Bs) : (Lib.decodeL l).2 ≤ 4 := by
  show (Utf8.decode _ _).2 ≤ 4
  rw [Lib.decode_at]; exact decodeN_le4 _ _ _ _ _
theorem letters_len : ∀ (n : Nat) (l : Bs) (k : Nat), l.length ≤ n → letters l = some k → l.length ≤ 4 * k
  | 0, l, k, h, _ => by omega
  | n + 1, l, k, h, hk => by
    by_cases hl : l = []
    · subst hl; simp
    · rw [letters_step l hl] at hk
      have hw := Lib.decodeL_width l
      have h4 := decodeL_le4 l
      have hlen : 0 < l.length := List.length_pos_iff.2 hl
      split at hk
      · cases hk
      · cases hr : letters (l.drop (Lib.decodeL l).2) with
        | none => rw [hr] at hk; cases hk
        | some j =>
          rw [hr] at hk
          have hk : j + 1 = k := by simpa using hk
          have := letters_len n _ j (by rw [List.length_drop]; omega) hr
          rw [List.length_drop] at this
          omega
theorem name_len (l : Bs) (h : isNameB l = true) : l.length ≤ 48 := by
  unfold isNameB at h
  cases hl : letters l with
  | none => rw [hl] at h; simp at h
  | some n =>
    rw [hl] at h
    have := letters_len _ l n (Nat.le_refl _) hl
    simp at h
    omega

/-- Bytes that a list of what must come takes, whatever follows. -/
def Rds (K : List It) (b : Bs) (g g' : Gr) : Prop := ∀ rest pos, run K ⟨b ++ rest, pos, g⟩ = .yes ⟨rest, pos + b.length, g'⟩
theorem Rds.nil (g : Gr) : Rds [] [] g g := fun rest pos => by rw [run_nil]; simp
theorem Rds.app {K L : List It} {a b : Bs} {g g1 g2 : Gr} (h : Rds K a g g1) (k : Rds L b g1 g2) : Rds (K ++ L) (a ++ b) g g2 := fun rest pos => by
  rw [run_app, List.append_assoc, h, Ex.then, k, List.length_append, Nat.add_assoc]
theorem Rds.cons {i : It} {L : List It} {a b : Bs} {g g1 g2 : Gr} (h : Rds [i] a g g1) (k : Rds L b g1 g2) : Rds (i :: L) (a ++ b) g g2 := Rds.app (K := [i]) h k
theorem ba_eta (s : ByteArray) : (⟨s.data.toList.toArray⟩ : ByteArray) = s := rfl
theorem Rds.step {i : It} {s : ByteArray} {b : Bs} {g g1 g2 : Gr} {push : List It} (ht : takeF g i s = .more g1 push) (hs : s.size ≤ i.most) (hk : Rds push b g1 g2) : Rds [i] (enc s.data.toList ++ b) g g2 := fun rest pos => by
  have hm : i.most ≤ 100 := by cases i <;> simp [It.most]
  have hl : s.data.toList.length = s.size := by simp
  rw [run_cons]
  unfold one
  simp only
  rw [List.append_assoc, cut_enc _ _ _ (by omega) (by omega)]
  simp only [ba_eta, ht, Ex.then, List.append_nil]
  rw [hk, List.length_append, Nat.add_assoc]
theorem Rds.one {i : It} {s : ByteArray} {g g1 : Gr} (ht : takeF g i s = .more g1 []) (hs : s.size ≤ i.most) : Rds [i] (enc s.data.toList) g g1 := by
  have := Rds.step ht hs (Rds.nil g1)
  rwa [List.append_nil] at this
theorem Rds.word (w : ByteArray) (g : Gr) (h : w.size ≤ 8) : Rds [.word w] (enc w.data.toList) g g := Rds.one (by rw [take_word, if_pos rfl]) h

theorem lastN_snoc (l : List Nd) (x : Nd) : lastN (l ++ [x]) = x := by simp [lastN]
theorem setN_snoc (l : List Nd) (x y : Nd) : setN (l ++ [x]) y = l ++ [y] := by simp [setN]
theorem lastD_snoc (l : Ds) (x : ByteArray × ByteArray) : lastD (l ++ [x]) = x := by simp [lastD]
theorem setD_snoc (l : Ds) (x y : ByteArray × ByteArray) : setD (l ++ [x]) y = l ++ [y] := by simp [setD]
theorem bytes1 (a : ByteArray) : bytesOf [a] = enc a.data.toList := by simp [bytesOf, encs]
theorem bytes2 (a b : ByteArray) : bytesOf [a, b] = enc a.data.toList ++ enc b.data.toList := by simp [bytesOf, encs]
theorem bytes3 (a b c : ByteArray) : bytesOf [a, b, c] = enc a.data.toList ++ (enc b.data.toList ++ enc c.data.toList) := by simp [bytesOf, encs]
theorem bytes5 (a b c d e : ByteArray) : bytesOf [a, b, c, d, e] = enc a.data.toList ++ (enc b.data.toList ++ (enc c.data.toList ++ (enc d.data.toList ++ enc e.data.toList))) := by simp [bytesOf, encs]

/-- A node begins. -/
theorem rds_bracket (ns : List Nd) (D : Ds) (path : ByteArray) (b : Bs) (g : Gr) (hD : D.length ≤ 5) (hn : ns.length < 30) (h : Rds [.kind] b ⟨ns ++ [⟨path, 0, ⟨#[]⟩⟩], D, path⟩ g) : Rds [.bracket] (enc wOpen.data.toList ++ (enc wType.data.toList ++ b)) ⟨ns, D, path⟩ g := by
  refine Rds.step (s := wOpen) (push := [.word wType, .kind]) (g1 := ⟨ns ++ [⟨path, 0, ⟨#[]⟩⟩], D, path⟩) ?_ (by decide) ?_
  · rw [take_bracket, if_pos rfl, if_neg (by simp only; omega), if_neg (by simp only; omega)]
  · exact Rds.cons (Rds.word wType _ (by decide)) h
theorem fits_data (k : Int) (d : Bs) (h : fits k d = true) : d.length ≤ 100 := by
  unfold fits at h
  split at h
  · simp at h; omega
  · split at h
    · simpa using h
    · split at h
      · have : d = [] := by simpa using h
        subst this; simp
      · cases h
theorem rds_data (ns : List Nd) (D : Ds) (p path : ByteArray) (k : Int) (d : ByteArray) (hf : fits k d.data.toList = true) : Rds [.data, .word wClose] (enc d.data.toList ++ enc wClose.data.toList) ⟨ns ++ [⟨p, k, ⟨#[]⟩⟩], D, path⟩ ⟨ns ++ [⟨p, k, d⟩], D, path⟩ := by
  have hl : d.data.toList.length = d.size := by simp
  have := fits_data _ _ hf
  refine Rds.cons (Rds.one ?_ (by show d.size ≤ 100; omega)) (Rds.word wClose _ (by decide))
  rw [take_data]
  simp only [lastN_snoc, setN_snoc, hf, if_pos]
theorem ne_data_exec : ¬ wData = wExec := by decide
theorem ne_link_file : ¬ wLink = wFile := by decide
theorem ne_dir_file : ¬ wDir = wFile := by decide
theorem ne_dir_link : ¬ wDir = wLink := by decide
theorem ne_close_entry : ¬ wClose = wEntry := by decide
theorem size_data : wData.size ≤ 8 := by decide
theorem size_exec : wExec.size ≤ 8 := by decide
theorem size_none : wNone.size ≤ 8 := by decide
theorem size_file : wFile.size ≤ 8 := by decide
theorem size_link : wLink.size ≤ 8 := by decide
theorem size_dir : wDir.size ≤ 8 := by decide
theorem size_to : wTo.size ≤ 8 := by decide
theorem word1 : wordOf 1 = wFile := rfl
theorem word2 : wordOf 2 = wFile := rfl
theorem word3 : wordOf 3 = wLink := rfl
theorem word4 : wordOf 4 = wDir := rfl
theorem nodeF1 (E : List Nd → ByteArray → List UInt8 × List Nd) (path data : ByteArray) (r : List Nd) : (nodeF E ⟨path, 1, data⟩ r).1 = enc wOpen.data.toList ++ (enc wType.data.toList ++ (enc wFile.data.toList ++ (enc wData.data.toList ++ (enc data.data.toList ++ enc wClose.data.toList)))) := by
  simp only [nodeF, bodyF, bytes1, bytes2, bytes3, word1, if_neg (show ¬ (1 : Int) = 4 by decide), if_neg (show ¬ (1 : Int) = 2 by decide), if_true, List.append_assoc]
theorem nodeF2 (E : List Nd → ByteArray → List UInt8 × List Nd) (path data : ByteArray) (r : List Nd) : (nodeF E ⟨path, 2, data⟩ r).1 = enc wOpen.data.toList ++ (enc wType.data.toList ++ (enc wFile.data.toList ++ (enc wExec.data.toList ++ (enc wNone.data.toList ++ (enc wData.data.toList ++ (enc data.data.toList ++ enc wClose.data.toList)))))) := by
  simp only [nodeF, bodyF, bytes1, bytes2, bytes3, word2, if_neg (show ¬ (2 : Int) = 4 by decide), if_true, List.append_assoc]
theorem nodeF3 (E : List Nd → ByteArray → List UInt8 × List Nd) (path data : ByteArray) (r : List Nd) : (nodeF E ⟨path, 3, data⟩ r).1 = enc wOpen.data.toList ++ (enc wType.data.toList ++ (enc wLink.data.toList ++ (enc wTo.data.toList ++ (enc data.data.toList ++ enc wClose.data.toList)))) := by
  simp only [nodeF, bodyF, bytes1, bytes2, bytes3, word3, if_neg (show ¬ (3 : Int) = 4 by decide), if_neg (show ¬ (3 : Int) = 2 by decide), if_neg (show ¬ (3 : Int) = 1 by decide), if_true, List.append_assoc]
theorem nodeF4 (E : List Nd → ByteArray → List UInt8 × List Nd) (path data : ByteArray) (r : List Nd) : (nodeF E ⟨path, 4, data⟩ r).1 = enc wOpen.data.toList ++ (enc wType.data.toList ++ (enc wDir.data.toList ++ ((E r (prefixIn path)).1 ++ enc wClose.data.toList))) := by
  simp only [nodeF, bodyF, bytes1, bytes3, word4, if_true, List.append_assoc]
theorem nodeF_leaf (E : List Nd → ByteArray → List UInt8 × List Nd) (n : Nd) (r : List Nd) (h : n.kind ≠ 4) : (nodeF E n r).2 = r := by
  unfold nodeF bodyF; simp only; rw [if_neg h]
/-- A file or a link. -/
theorem rds_leaf (E : List Nd → ByteArray → List UInt8 × List Nd) (ns : List Nd) (D : Ds) (n : Nd) (r : List Nd) (hD : D.length ≤ 5) (hn : ns.length < 30) (hf : fits n.kind n.data.data.toList = true) (hk : n.kind ≠ 4) :
    Rds [.bracket] (nodeF E n r).1 ⟨ns, D, n.path⟩ ⟨ns ++ [n], D, n.path⟩ := by
  obtain ⟨path, kind, data⟩ := n
  simp only at hf hk ⊢
  rcases fits_kind _ _ hf with rfl | rfl | rfl | rfl
  · rw [nodeF1]
    have hA := rds_data ns D path path 1 data hf
    have tB : takeF ⟨ns ++ [⟨path, 1, ⟨#[]⟩⟩], D, path⟩ .inFile wData = .more ⟨ns ++ [⟨path, 1, ⟨#[]⟩⟩], D, path⟩ [.data, .word wClose] := by rw [take_inFile, if_neg ne_data_exec, if_pos rfl]
    have hB := Rds.step tB size_data hA
    have tC : takeF ⟨ns ++ [⟨path, 0, ⟨#[]⟩⟩], D, path⟩ .kind wFile = .more ⟨ns ++ [⟨path, 1, ⟨#[]⟩⟩], D, path⟩ [.inFile] := by rw [take_kind, if_pos rfl, lastN_snoc, setN_snoc]
    exact rds_bracket ns D path _ _ hD hn (Rds.step tC size_file hB)
  · rw [nodeF2]
    have hA := rds_data ns D path path 2 data hf
    have tB : takeF ⟨ns ++ [⟨path, 1, ⟨#[]⟩⟩], D, path⟩ .inFile wExec = .more ⟨ns ++ [⟨path, 2, ⟨#[]⟩⟩], D, path⟩ [.word wNone, .word wData, .data, .word wClose] := by rw [take_inFile, if_pos rfl, lastN_snoc, setN_snoc]
    have hB := Rds.step tB size_exec (Rds.cons (Rds.word wNone _ size_none) (Rds.cons (Rds.word wData _ size_data) hA))
    have tC : takeF ⟨ns ++ [⟨path, 0, ⟨#[]⟩⟩], D, path⟩ .kind wFile = .more ⟨ns ++ [⟨path, 1, ⟨#[]⟩⟩], D, path⟩ [.inFile] := by rw [take_kind, if_pos rfl, lastN_snoc, setN_snoc]
    exact rds_bracket ns D path _ _ hD hn (Rds.step tC size_file hB)
  · rw [nodeF3]
    have hA := rds_data ns D path path 3 data hf
    have tC : takeF ⟨ns ++ [⟨path, 0, ⟨#[]⟩⟩], D, path⟩ .kind wLink = .more ⟨ns ++ [⟨path, 3, ⟨#[]⟩⟩], D, path⟩ [.word wTo, .data, .word wClose] := by rw [take_kind, if_neg ne_link_file, if_pos rfl, lastN_snoc, setN_snoc]
    exact rds_bracket ns D path _ _ hD hn (Rds.step tC size_link (Rds.cons (Rds.word wTo _ size_to) hA))
  · exact absurd rfl hk
/-- A directory, up to its end. -/
theorem rds_dir (E : List Nd → ByteArray → List UInt8 × List Nd) (ns : List Nd) (D : Ds) (path : ByteArray) (r : List Nd) (g : Gr) (hD : D.length ≤ 5) (hn : ns.length < 30)
    (h : Rds [.inDir] ((E r (prefixIn path)).1 ++ enc wClose.data.toList) ⟨ns ++ [⟨path, 4, ⟨#[]⟩⟩], D ++ [(prefixIn path, ⟨#[]⟩)], path⟩ g) :
    Rds [.bracket] (nodeF E ⟨path, 4, ⟨#[]⟩⟩ r).1 ⟨ns, D, path⟩ g := by
  rw [nodeF4]
  have tC : takeF ⟨ns ++ [⟨path, 0, ⟨#[]⟩⟩], D, path⟩ .kind wDir = .more ⟨ns ++ [⟨path, 4, ⟨#[]⟩⟩], D ++ [(prefixIn path, ⟨#[]⟩)], path⟩ [.inDir] := by rw [take_kind, if_neg ne_dir_file, if_neg ne_dir_link, if_pos rfl, lastN_snoc, setN_snoc]
  exact rds_bracket ns D path _ _ hD hn (Rds.step tC size_dir h)
theorem rds_end (ns : List Nd) (D : Ds) (x : ByteArray × ByteArray) (path : ByteArray) : Rds [.inDir] (enc wClose.data.toList) ⟨ns, D ++ [x], path⟩ ⟨ns, D, path⟩ := by
  refine Rds.one ?_ (by decide)
  rw [take_inDir, if_neg (by decide), if_pos rfl]; simp
/-- An entry's head. -/
theorem rds_entry (ns : List Nd) (D : Ds) (P last nm p0 : ByteArray) (b1 b2 : Bs) (g1 g2 : Gr) (hn : isNameB nm.data.toList = true) (ha : notAbove nm last = false)
    (h1 : Rds [.bracket] b1 ⟨ns, D ++ [(P, nm)], P ++ nm⟩ g1) (h2 : Rds [.inDir] b2 g1 g2) :
    Rds [.inDir] (bytesOf [wEntry, wOpen, wName, nm, wNode] ++ b1 ++ bytesOf [wClose] ++ b2) ⟨ns, D ++ [(P, last)], p0⟩ g2 := by
  have hl : nm.data.toList.length = nm.size := by simp
  have h48 := name_len _ hn
  have e : bytesOf [wEntry, wOpen, wName, nm, wNode] ++ b1 ++ bytesOf [wClose] ++ b2 = enc wEntry.data.toList ++ (enc wOpen.data.toList ++ (enc wName.data.toList ++ (enc nm.data.toList ++ (enc wNode.data.toList ++ (b1 ++ (enc wClose.data.toList ++ b2)))))) := by
    rw [bytes5, bytes1]; simp only [List.append_assoc]
  rw [e]
  refine Rds.step (s := wEntry) (push := [.word wOpen, .word wName, .name, .word wNode, .bracket, .word wClose, .inDir]) (g1 := ⟨ns, D ++ [(P, last)], p0⟩) ?_ (by decide) ?_
  · rw [take_inDir, if_pos rfl]
  · refine Rds.cons (Rds.word wOpen _ (by decide)) (Rds.cons (Rds.word wName _ (by decide)) (Rds.cons (g1 := ⟨ns, D ++ [(P, nm)], P ++ nm⟩) (Rds.one ?_ (by show nm.size ≤ 48; omega)) (Rds.cons (Rds.word wNode _ (by decide)) (Rds.cons h1 (Rds.cons (Rds.word wClose _ (by decide)) h2)))))
    rw [take_name]
    simp only [lastD_snoc, setD_snoc]
    rw [if_neg (by rw [hn]; simp), if_neg (by rw [ha]; simp)]

theorem above_get : ∀ (ds : Ds) (p : ByteArray) (k : Nat), above ds p = k + 1 → ∃ h : k < ds.length, ds[k].1 = p
  | [], p, k, h => by simp [above] at h
  | d :: r, p, k, h => by
    simp only [above] at h
    split at h
    · obtain rfl : k = 0 := by omega
      exact ⟨by simp, by assumption⟩
    · split at h
      · omega
      · obtain ⟨j, rfl⟩ : ∃ j, k = j + 1 := ⟨k - 1, by omega⟩
        obtain ⟨h1, h2⟩ := above_get r p j (by omega)
        exact ⟨by simp; omega, by simpa using h2⟩
/-- Where the loop over a directory's entries stands. -/
structure EH (l : List Nd) (D0 : Ds) (P last : ByteArray) (Dx Z : Ds) (k : Nat) : Prop where
  run : runF k Dx l = some Z
  k0 : k ≠ 0
  pref : D0 ++ [(P, last)] <+: Dx
  inc : ∀ d ∈ D0, d.1.size < P.size
  head : ∀ n, l.head? = some n → above Dx (pre n.path) ≤ D0.length + 1
theorem runF_cons {k : Nat} {Dx Z : Ds} {n : Nd} {r : List Nd} (h : runF k Dx (n :: r) = some Z) : ∃ Dy, stepW k Dx n = some Dy ∧ runF (k + 1) Dy r = some Z := by
  simp only [runF] at h
  cases hs : stepW k Dx n with
  | none => rw [hs] at h; cases h
  | some Dy => rw [hs] at h; exact ⟨Dy, rfl, h⟩
theorem pre_nam (s : ByteArray) : pre s ++ nam s = s := by
  apply ByteArray.ext; apply Array.toList_inj.1
  rw [data_append, pre_data, nam_data, split_eq]
theorem prefixIn_size (s : ByteArray) (h : s.data.toList ≠ []) : (prefixIn s).size = s.size + 1 := by
  unfold prefixIn; rw [if_neg h, ByteArray.size_append]; rfl
/-- What the look tells of an entry. -/
theorem look_entry {n : Nd} {r : List Nd} {D0 : Ds} {P last : ByteArray} {Dx Z : Ds} {k : Nat} (h : EH (n :: r) D0 P last Dx Z k) (hp : pre n.path = P) :
    k < 30 ∧ D0.length + 1 ≤ 5 ∧ fits n.kind n.data.data.toList = true ∧ isNameB (nam n.path).data.toList = true ∧ notAbove (nam n.path) last = false ∧ runF (k + 1) (enterL (D0 ++ [(P, nam n.path)]) n.path n.kind) r = some Z := by
  obtain ⟨Dy, hs, hr⟩ := runF_cons h.run
  unfold stepW at hs
  split at hs
  · rename_i hc
    rw [if_neg h.k0] at hs
    obtain ⟨ext, hext⟩ := h.pref
    have hget : ∀ j (hj : j < Dx.length), j < D0.length → Dx[j].1 ≠ P := fun j hj hlt e => by
      have : Dx[j] = D0[j] := by
        subst hext
        rw [List.getElem_append_left (by simp; omega), List.getElem_append_left hlt]
      rw [this] at e
      have := h.inc D0[j] (List.getElem_mem _)
      rw [e] at this; omega
    have hlen : D0.length < Dx.length := by rw [← hext]; simp
    have htop : Dx[D0.length] = (P, last) := by subst hext; simp
    have hab : above Dx P = D0.length + 1 := above_at Dx P D0.length hlen (by rw [htop]) hget
    have hgD : Dx.getD D0.length (⟨#[]⟩, ⟨#[]⟩) = (P, last) := by simp [List.getD, hlen, htop]
    have htk : Dx.take (D0.length + 1) = D0 ++ [(P, last)] := by
      subst hext; exact List.take_left' (by simp)
    unfold placeRest at hs
    simp only [hp, hab, Nat.add_sub_cancel, hgD, htk] at hs
    split at hs
    · cases hs
    · rename_i h5
      split at hs
      · cases hs
      · rename_i hnm
        split at hs
        · cases hs
        · rename_i hna
          injection hs with hs
          have e : (D0 ++ [(P, last)]).set D0.length (P, nam n.path) = D0 ++ [(P, nam n.path)] := by simp
          rw [e] at hs
          subst hs
          exact ⟨hc.1, by omega, hc.2, by simpa using hnm, by simpa using hna, hr⟩
  · cases hs
theorem isName_ne (s : Bs) (h : isNameB s = true) : s ≠ [] := fun e => by subst e; simp [isNameB, letters_nil] at h
/-- A directory's entries. -/
theorem ents_read : ∀ (f : Nat) (l : List Nd) (D0 : Ds) (P last : ByteArray) (Dx Z : Ds) (ns : List Nd) (p0 : ByteArray), l.length ≤ f → EH l D0 P last Dx Z ns.length →
    ∃ (cons : List Nd) (last' : ByteArray) (Dx' : Ds) (p' : ByteArray), l = cons ++ (entsF f l P).2 ∧ D0 ++ [(P, last')] <+: Dx' ∧ runF (ns.length + cons.length) Dx' (entsF f l P).2 = some Z ∧ (∀ n, (entsF f l P).2.head? = some n → above Dx' (pre n.path) ≤ D0.length) ∧
      ∀ (b : Bs) (g : Gr), Rds [.inDir] b ⟨ns ++ cons, D0 ++ [(P, last')], p'⟩ g → Rds [.inDir] ((entsF f l P).1 ++ b) ⟨ns, D0 ++ [(P, last)], p0⟩ g
  | 0, l, D0, P, last, Dx, Z, ns, p0, hl, h => by
    have : l = [] := List.eq_nil_of_length_eq_zero (by omega)
    subst this
    exact ⟨[], last, Dx, p0, rfl, h.pref, h.run, (fun n hn => by cases hn), fun b g hb => by simpa [entsF] using hb⟩
  | f + 1, [], D0, P, last, Dx, Z, ns, p0, hl, h => ⟨[], last, Dx, p0, rfl, h.pref, h.run, (fun n hn => by cases hn), fun b g hb => by simpa [entsF] using hb⟩
  | f + 1, n :: r, D0, P, last, Dx, Z, ns, p0, hl, h => by
    by_cases hp : pre n.path = P
    · obtain ⟨hk, h5, hf, hnm, hna, hrun⟩ := look_entry h hp
      have hpath : P ++ nam n.path = n.path := by rw [← hp, pre_nam]
      have hE1 : (entsF (f + 1) (n :: r) P).1 = bytesOf [wEntry, wOpen, wName, nam n.path, wNode] ++ (nodeF (entsF f) n r).1 ++ bytesOf [wClose] ++ (entsF f (nodeF (entsF f) n r).2 P).1 := by simp only [entsF, if_pos hp]
      have hE2 : (entsF (f + 1) (n :: r) P).2 = (entsF f (nodeF (entsF f) n r).2 P).2 := by simp only [entsF, if_pos hp]
      rw [hE1, hE2]
      have hl' : r.length ≤ f := by simpa using hl
      have hDl : (D0 ++ [(P, nam n.path)]).length ≤ 5 := by simp; omega
      by_cases h4 : n.kind = 4
      · obtain ⟨path, kind, data⟩ := n
        simp only at h4 hf hp hpath hnm hna hrun hDl ⊢
        subst h4
        have hd : data = ⟨#[]⟩ := by
          unfold fits at hf
          simp at hf
          apply ByteArray.ext; exact hf
        subst hd
        have hen : enterL (D0 ++ [(P, nam path)]) path 4 = (D0 ++ [(P, nam path)]) ++ [(prefixIn path, ⟨#[]⟩)] := by unfold enterL; rw [if_pos rfl]
        rw [hen] at hrun
        have hpne : path.data.toList ≠ [] := by
          rw [← hpath, data_append]
          have := isName_ne _ hnm
          simp [this]
        have hps : path.size = P.size + (nam path).size := by conv => lhs; rw [← hpath, ByteArray.size_append]
        obtain ⟨c1, last1, Dx1, p1, e1, q1, r1, d1, t1⟩ := ents_read f r (D0 ++ [(P, nam path)]) (prefixIn path) ⟨#[]⟩ _ Z (ns ++ [⟨path, 4, ⟨#[]⟩⟩]) path hl'
          ⟨by simpa using hrun, by simp, List.prefix_refl _, fun d hd => by
            rw [prefixIn_size _ hpne]
            rcases List.mem_append.1 hd with hd | hd
            · have := h.inc d hd; omega
            · rw [List.mem_singleton] at hd; subst hd; simp only; omega, fun m hm => by have := above_le ((D0 ++ [(P, nam path)]) ++ [(prefixIn path, ⟨#[]⟩)]) (pre m.path); simpa using this⟩
        have hN2 : (nodeF (entsF f) ⟨path, 4, ⟨#[]⟩⟩ r).2 = (entsF f r (prefixIn path)).2 := by simp only [nodeF, bodyF, if_true]
        rw [hN2]
        have hlen2 : (entsF f r (prefixIn path)).2.length ≤ f := by
          have := congrArg List.length e1
          rw [List.length_append] at this; omega
        obtain ⟨c2, last2, Dx2, p2, e2, q2, r2, d2, t2⟩ := ents_read f (entsF f r (prefixIn path)).2 D0 P (nam path) Dx1 Z (ns ++ [⟨path, 4, ⟨#[]⟩⟩] ++ c1) p1 hlen2
          ⟨by simpa [Nat.add_assoc, Nat.add_comm 1] using r1, by simp, (List.prefix_append _ _).trans q1, h.inc, fun m hm => by simpa using d1 m hm⟩
        refine ⟨⟨path, 4, ⟨#[]⟩⟩ :: c1 ++ c2, last2, Dx2, p2, ?_, q2, ?_, d2, fun b g hb => ?_⟩
        · rw [List.cons_append, List.cons_append, List.append_assoc, ← e2, ← e1]
        · rw [show ns.length + ((⟨path, 4, ⟨#[]⟩⟩ : Nd) :: c1 ++ c2).length = (ns ++ [(⟨path, 4, ⟨#[]⟩⟩ : Nd)] ++ c1).length + c2.length by simp; omega]; exact r2
        · rw [List.append_assoc]
          refine rds_entry ns D0 P last (nam path) p0 _ _ ⟨ns ++ [⟨path, 4, ⟨#[]⟩⟩] ++ c1, D0 ++ [(P, nam path)], p1⟩ g hnm hna ?_ (t2 b g (by simpa using hb))
          rw [hpath]
          refine rds_dir (entsF f) ns _ path r _ hDl (by omega) (t1 _ _ ?_)
          exact rds_end _ _ _ _
      · have hen : enterL (D0 ++ [(P, nam n.path)]) n.path n.kind = D0 ++ [(P, nam n.path)] := by unfold enterL; rw [if_neg h4]
        rw [hen] at hrun
        rw [nodeF_leaf _ _ _ h4]
        obtain ⟨c2, last2, Dx2, p2, e2, q2, r2, d2, t2⟩ := ents_read f r D0 P (nam n.path) _ Z (ns ++ [n]) n.path hl'
          ⟨by simpa using hrun, by simp, List.prefix_refl _, h.inc, fun m hm => by have := above_le (D0 ++ [(P, nam n.path)]) (pre m.path); simpa using this⟩
        refine ⟨n :: c2, last2, Dx2, p2, ?_, q2, ?_, d2, fun b g hb => ?_⟩
        · rw [List.cons_append, ← e2]
        · rw [show ns.length + (n :: c2).length = (ns ++ [n]).length + c2.length by simp; omega]; exact r2
        · rw [List.append_assoc]
          refine rds_entry ns D0 P last (nam n.path) p0 _ _ ⟨ns ++ [n], D0 ++ [(P, nam n.path)], n.path⟩ g hnm hna ?_ (t2 b g (by simpa using hb))
          rw [hpath]
          exact rds_leaf (entsF f) ns _ n r hDl (by omega) hf h4
    · have hE : entsF (f + 1) (n :: r) P = ([], n :: r) := by simp only [entsF, if_neg hp]
      rw [hE]
      refine ⟨[], last, Dx, p0, rfl, h.pref, h.run, fun m hm => ?_, fun b g hb => by simpa using hb⟩
      have hm : n = m := by simpa using hm
      subst hm
      have h1 := h.head n rfl
      rcases Nat.lt_or_ge (above Dx (pre n.path)) (D0.length + 1) with hlt | hge
      · omega
      · obtain ⟨hh, he⟩ := above_get Dx (pre n.path) D0.length (by omega)
        obtain ⟨ext, hext⟩ := h.pref
        have htop : Dx[D0.length] = (P, last) := by subst hext; simp
        rw [htop] at he
        exact absurd he.symm hp
theorem look_zero {n : Nd} {r : List Nd} {Dx Z : Ds} {k : Nat} (hk : k ≠ 0) (h : runF k Dx (n :: r) = some Z) : above Dx (pre n.path) ≠ 0 := by
  obtain ⟨Dy, hs, hr⟩ := runF_cons h
  unfold stepW at hs
  split at hs
  · first | rw [if_neg hk] at hs | skip
    intro e
    unfold placeRest at hs
    simp [e] at hs
  · cases hs
theorem empty_of {s : ByteArray} (h : s.toList.isEmpty = true) : s = ⟨#[]⟩ := by
  rw [ByteArray.toList_eq] at h
  apply ByteArray.ext; apply Array.toList_inj.1
  simpa using h
/-- A TREE's BYTES ARE READ AS THAT TREE. -/
theorem pack_reads (l : List Nd) (Z : Ds) (hne : l ≠ []) (h : runF 0 [] l = some Z) : ∃ g, g.nodes = l ∧ Rds [.word wNar, .bracket] (packBytes l) ⟨[], [], ⟨#[]⟩⟩ g := by
  cases l with
  | nil => exact absurd rfl hne
  | cons n r =>
    obtain ⟨Dy, hs, hr⟩ := runF_cons h
    unfold stepW at hs
    split at hs
    · rename_i hc
      rw [if_pos rfl] at hs
      split at hs
      · rename_i hpe
        injection hs with hs
        subst hs
        have hpq := empty_of hpe
        clear hpe
        have hpe := hpq
        clear hpq
        have hpb : packBytes (n :: r) = enc wNar.data.toList ++ (nodeF (entsF r.length) n r).1 := by unfold packBytes; rw [bytes1]
        rw [hpb]
        by_cases h4 : n.kind = 4
        · obtain ⟨path, kind, data⟩ := n
          simp only at h4 hc hpe hr ⊢
          subst h4; subst hpe
          have hd : data = ⟨#[]⟩ := by
            have hf := hc.2
            unfold fits at hf
            simp at hf
            apply ByteArray.ext; exact hf
          subst hd
          have hen : enterL [] ⟨#[]⟩ 4 = [] ++ [(prefixIn ⟨#[]⟩, ⟨#[]⟩)] := by unfold enterL; rw [if_pos rfl]
          rw [hen] at hr
          obtain ⟨c1, last1, Dx1, p1, e1, q1, r1, d1, t1⟩ := ents_read r.length r [] (prefixIn ⟨#[]⟩) ⟨#[]⟩ _ Z [⟨⟨#[]⟩, 4, ⟨#[]⟩⟩] ⟨#[]⟩ (Nat.le_refl _)
            ⟨hr, by simp, List.prefix_refl _, (fun d hd => by cases hd), fun m hm => by have := above_le ([] ++ [(prefixIn ⟨#[]⟩, (⟨#[]⟩ : ByteArray))]) (pre m.path); simpa using this⟩
          have hl0 : (entsF r.length r (prefixIn ⟨#[]⟩)).2 = [] := by
            cases hh : (entsF r.length r (prefixIn ⟨#[]⟩)).2 with
            | nil => rfl
            | cons m t =>
              rw [hh] at r1 d1
              have a1 := d1 m rfl
              have a2 := look_zero (by simp) r1
              simp only [List.length_nil] at a1
              omega
          rw [hl0, List.append_nil] at e1
          refine ⟨⟨⟨⟨#[]⟩, 4, ⟨#[]⟩⟩ :: c1, [], p1⟩, by rw [e1], ?_⟩
          refine Rds.cons (Rds.word wNar _ (by decide)) (rds_dir (entsF r.length) [] [] ⟨#[]⟩ r _ (by simp) (by simp) (t1 _ _ ?_))
          exact rds_end _ [] _ _
        · have hen : enterL [] n.path n.kind = [] := by unfold enterL; rw [if_neg h4]
          rw [hen] at hr
          have hr0 : r = [] := by
            cases r with
            | nil => rfl
            | cons m t => have := look_zero (by omega) hr; simp [above] at this
          subst hr0
          refine ⟨⟨[n], [], n.path⟩, rfl, Rds.cons (Rds.word wNar _ (by decide)) ?_⟩
          have := rds_leaf (entsF 0) [] [] n [] (by simp) (by simp) hc.2 h4
          rw [hpe] at this ⊢
          exact this
      · cases hs
    · cases hs
theorem read_pack (l : List Nd) (Z : Ds) (hne : l ≠ []) (h : runF 0 [] l = some Z) : readF (packBytes l) = (l, 0, 0) := by
  obtain ⟨g, hg, hr⟩ := pack_reads l Z hne h
  have := hr [] 0
  rw [List.append_nil] at this
  rw [readF_run, this]
  simp [told, hg]
end Go.Proofs.YtdainghdghchjaaDoor
