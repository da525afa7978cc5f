/-
  MATHEMATICS of the reader, 6: bytes that read as a tree are the bytes of that tree.
-/
import Derived.Test.YtpbjdfobbnpjfaaDoorJA
import Derived.Test.YtpbjdfobbnpjfaaDoorC14
namespace Go.Proofs.YtpbjdfobbnpjfaaDoor
open Go.RowKit

theorem byteAt_low (b : UInt8) (x : Nat) : byteAt ((b.toNat + 256 * x : Nat) : Int) 0 = b := by
  apply UInt8.toNat_inj.1
  have h := byteAt_val ((b.toNat + 256 * x : Nat) : Int) 0
  have hb := b.toNat_lt
  rw [Nat.mul_zero, Int.pow_zero, Int.ediv_one] at h
  omega
theorem byteAt_up (b : UInt8) (x j : Nat) : byteAt ((b.toNat + 256 * x : Nat) : Int) (j + 1) = byteAt (x : Int) j := by
  apply UInt8.toNat_inj.1
  have h1 := byteAt_val ((b.toNat + 256 * x : Nat) : Int) (j + 1)
  have h2 := byteAt_val (x : Int) j
  have hb := b.toNat_lt
  have e : ((b.toNat + 256 * x : Nat) : Int) / 2 ^ (8 * (j + 1)) = (x : Int) / 2 ^ (8 * j) := by
    have e1 : (2 : Int) ^ (8 * (j + 1)) = 256 * 2 ^ (8 * j) := by
      rw [Nat.mul_add, Int.pow_add, Int.mul_comm]
      rfl
    rw [e1, ← Int.ediv_ediv_of_nonneg (by omega)]
    congr 1
    omega
  rw [e] at h1
  omega
theorem bytes_num8 : ∀ L : Bs, (List.range L.length).map (byteAt ((num8 L : Nat) : Int)) = L
  | [] => rfl
  | b :: r => by
    have ih := bytes_num8 r
    rw [List.length_cons, List.range_succ_eq_map, List.map_cons, List.map_map]
    have e : num8 (b :: r) = b.toNat + 256 * num8 r := rfl
    rw [e, byteAt_low]
    congr 1
    conv => rhs; rw [← ih]
    refine List.map_congr_left fun j _ => ?_
    exact byteAt_up b (num8 r) j
theorem cut_bytes {l : Bs} {m : Nat} {s r : Bs} {n : Nat} (h : cutF l m = .ok s r n) : l = enc s ++ r := by
  obtain ⟨h8, hm, hn, hnl, hs, hr, hz⟩ := cutF_ok h
  obtain ⟨N, hN⟩ : ∃ N, num8 (l.take 8) = N := ⟨_, rfl⟩
  rw [hN] at hm hn hs hz
  have hw : n = 8 + N + padLen N := hn
  have hsl : s.length = N := by rw [hs, List.length_take, List.length_drop]; omega
  have h1 : l.take 8 = le (N : Int) 8 := by
    have := bytes_num8 (l.take 8)
    rw [hN] at this
    have e8 : (l.take 8).length = 8 := by rw [List.length_take]; omega
    rw [e8] at this
    exact this.symm
  have h2 : (l.take n).drop (8 + N) = List.replicate (padLen N) 0 := by
    rw [List.eq_replicate_iff]
    refine ⟨by rw [List.length_drop, List.length_take]; omega, fun b hb => ?_⟩
    simpa using List.all_eq_true.1 hz b hb
  unfold enc
  rw [hsl, ← h1, ← h2, hs, hr]
  have e1 : l.take n = l.take 8 ++ ((l.drop 8).take N ++ (l.take n).drop (8 + N)) := by
    have a1 : (l.take n).take 8 = l.take 8 := by rw [List.take_take]; congr 1; omega
    have a2 : ((l.take n).drop 8).take N = (l.drop 8).take N := by
      rw [List.drop_take, List.take_take]
      congr 1
      omega
    have a3 : (l.take n).drop (8 + N) = ((l.take n).drop 8).drop N := by rw [List.drop_drop]
    rw [a3, ← a2, List.take_append_drop, ← a1, List.take_append_drop]
  conv => lhs; rw [← List.take_append_drop n l, e1]
  simp only [List.append_assoc]
/-- A string that was taken, and what bytes went. -/
theorem runB_yes {i : It} {K : List It} {x z : Pt} (h : run (i :: K) x = .yes z) : ∃ (s : ByteArray) (g : Gr) (push : List It) (y : Pt), takeF x.gr i s = .more g push ∧ y.gr = g ∧ x.left = enc s.data.toList ++ y.left ∧ y.left.length < x.left.length ∧ run (push ++ K) y = .yes z := by
  rw [run_cons] at h
  cases ho : one i x with
  | no e p => rw [ho] at h; cases h
  | yes y =>
    obtain ⟨y, push⟩ := y
    rw [ho] at h
    unfold one at ho
    split at ho
    · cases ho
    · cases ho
    · rename_i s rest n hcut
      split at ho
      · cases ho
      · rename_i g' push' ht
        injection ho with ho
        injection ho with h1 h2
        subst h1
        subst h2
        have hl := cutF_len hcut
        exact ⟨_, _, _, _, ht, rfl, cut_bytes hcut, by simp only; omega, h⟩
theorem runB_word {w : ByteArray} {K : List It} {x z : Pt} (h : run (.word w :: K) x = .yes z) : ∃ y : Pt, y.gr = x.gr ∧ x.left = enc w.data.toList ++ y.left ∧ y.left.length < x.left.length ∧ run K y = .yes z := by
  obtain ⟨s, g, push, y, ht, hg, hl, hlt, hr⟩ := runB_yes h
  rw [take_word] at ht
  split at ht
  · rename_i hs
    injection ht with h1 h2
    subst h1; subst h2; subst hs
    exact ⟨y, hg, hl, hlt, hr⟩
  · cases ht
theorem runB_data {ns : List Nd} {D : Ds} {path p d0 : ByteArray} {k : Int} {x z : Pt} (hg : x.gr = ⟨ns ++ [⟨path, k, d0⟩], D, p⟩) (h : run [.data, .word wClose] x = .yes z) : ∃ d : ByteArray, z.gr = ⟨ns ++ [⟨path, k, d⟩], D, p⟩ ∧ x.left = enc d.data.toList ++ (enc wClose.data.toList ++ z.left) := by
  obtain ⟨s, g, push, y, ht, hy, hl, _, hr⟩ := runB_yes h
  rw [hg, take_data] at ht
  simp only [lastN_snoc, setN_snoc] at ht
  split at ht
  · injection ht with h1 h2
    subst h1; subst h2
    obtain ⟨y2, hy2, hl2, _, hr2⟩ := runB_word hr
    rw [run_nil] at hr2
    injection hr2 with hr2
    subst hr2
    exact ⟨s, by rw [hy2, hy], by rw [hl, hl2]⟩
  · cases ht
/-- What comes behind is of no directory as deep. -/
def Stp (tail : List Nd) (k : Nat) : Prop := ∀ t, tail.head? = some t → (pre t.path).size < k
/-- Directories, with so much left. -/
def DirB (f : Nat) : Prop := ∀ (ns : List Nd) (D : Ds) (q P last p : ByteArray) (x z : Pt), x.left.length < f → x.gr = ⟨ns, D ++ [(P, last)], p⟩ → P = prefixIn q → run [.inDir] x = .yes z → z.gr.dirs = D ∧ ∃ new B, z.gr.nodes = ns ++ new ∧ x.left = B ++ (enc wClose.data.toList ++ z.left) ∧ (∀ t, new.head? = some t → pre t.path = P) ∧ ∀ (tail : List Nd) (f' : Nat), (new ++ tail).length ≤ f' → Stp tail P.size → entsF f' (new ++ tail) P = (B, tail)
def NodeB (ns : List Nd) (D : Ds) (path : ByteArray) (more : Bs) (x z : Pt) : Prop := z.gr.dirs = D ∧ ∃ n new B, z.gr.nodes = ns ++ n :: new ∧ n.path = path ∧ more ++ x.left = B ++ z.left ∧ ∀ (tail : List Nd) (f' : Nat), (new ++ tail).length ≤ f' → Stp tail (prefixIn path).size → nodeF (entsF f') n (new ++ tail) = (B, tail)
theorem kindB {f : Nat} (hD : DirB f) {ns : List Nd} {D : Ds} {path p : ByteArray} {x z : Pt} (hx : x.left.length < f) (hg : x.gr = ⟨ns ++ [⟨path, 0, ⟨#[]⟩⟩], D, p⟩) (h : run [.kind] x = .yes z) : NodeB ns D path (enc wOpen.data.toList ++ enc wType.data.toList) x z := by
  obtain ⟨s, g, push, y, ht, hy, hl, hlt, hr⟩ := runB_yes h
  rw [hg, take_kind] at ht
  simp only [lastN_snoc, setN_snoc] at ht
  split at ht
  · rename_i hs
    injection ht with h1 h2
    subst h1; subst h2; subst hs
    obtain ⟨s2, g2, push2, y2, ht2, hy2, hl2, _, hr2⟩ := runB_yes hr
    rw [hy, take_inFile] at ht2
    simp only [lastN_snoc, setN_snoc] at ht2
    split at ht2
    · rename_i hs2
      injection ht2 with h1 h2
      subst h1; subst h2; subst hs2
      obtain ⟨y3, e3, l3, _, hr3⟩ := runB_word hr2
      obtain ⟨y4, e4, l4, _, hr4⟩ := runB_word hr3
      obtain ⟨d, hz, l5⟩ := runB_data (by rw [e4, e3, hy2]) hr4
      refine ⟨by rw [hz], ⟨path, 2, d⟩, [], enc wOpen.data.toList ++ (enc wType.data.toList ++ (enc wFile.data.toList ++ (enc wExec.data.toList ++ (enc wNone.data.toList ++ (enc wData.data.toList ++ (enc d.data.toList ++ enc wClose.data.toList)))))), by rw [hz], rfl, ?_, fun tail f' _ _ => ?_⟩
      rotate_left
      · exact Prod.ext (nodeF2 _ path d tail) (nodeF_leaf _ _ _ (by simp))
      · rw [hl, hl2, l3, l4, l5]; simp only [List.append_assoc]
    · split at ht2
      · rename_i hs2
        injection ht2 with h1 h2
        subst h1; subst h2; subst hs2
        obtain ⟨d, hz, l5⟩ := runB_data hy2 hr2
        refine ⟨by rw [hz], ⟨path, 1, d⟩, [], enc wOpen.data.toList ++ (enc wType.data.toList ++ (enc wFile.data.toList ++ (enc wData.data.toList ++ (enc d.data.toList ++ enc wClose.data.toList)))), by rw [hz], rfl, ?_, fun tail f' _ _ => ?_⟩
        rotate_left
        · exact Prod.ext (nodeF1 _ path d tail) (nodeF_leaf _ _ _ (by simp))
        · rw [hl, hl2, l5]; simp only [List.append_assoc]
      · cases ht2
  · split at ht
    · rename_i hs
      injection ht with h1 h2
      subst h1; subst h2; subst hs
      obtain ⟨y3, e3, l3, _, hr3⟩ := runB_word hr
      obtain ⟨d, hz, l5⟩ := runB_data (by rw [e3, hy]) hr3
      refine ⟨by rw [hz], ⟨path, 3, d⟩, [], enc wOpen.data.toList ++ (enc wType.data.toList ++ (enc wLink.data.toList ++ (enc wTo.data.toList ++ (enc d.data.toList ++ enc wClose.data.toList)))), by rw [hz], rfl, ?_, fun tail f' _ _ => ?_⟩
      rotate_left
      · exact Prod.ext (nodeF3 _ path d tail) (nodeF_leaf _ _ _ (by simp))
      · rw [hl, l3, l5]; simp only [List.append_assoc]
    · split at ht
      · rename_i hs
        injection ht with h1 h2
        subst h1; subst h2; subst hs
        obtain ⟨d1, new, B, d2, d3, _, d4⟩ := hD (ns ++ [⟨path, 4, ⟨#[]⟩⟩]) D path (prefixIn path) ⟨#[]⟩ p y z (by omega) hy rfl hr
        refine ⟨d1, ⟨path, 4, ⟨#[]⟩⟩, new, enc wOpen.data.toList ++ (enc wType.data.toList ++ (enc wDir.data.toList ++ (B ++ enc wClose.data.toList))), by rw [d2]; simp, rfl, ?_, fun tail f' hf hst => ?_⟩
        · rw [hl, d3]; simp only [List.append_assoc]
        · have he := d4 tail f' hf hst
          refine Prod.ext ?_ ?_
          · rw [nodeF4, he]
          · show (bodyF (entsF f') ⟨path, 4, ⟨#[]⟩⟩ (new ++ tail)).2 = tail
            unfold bodyF
            rw [if_pos rfl]
            show (entsF f' (new ++ tail) (prefixIn path)).2 = tail
            rw [he]
      · cases ht
theorem nodeB {f : Nat} (hD : DirB f) {ns : List Nd} {D : Ds} {path : ByteArray} {x z : Pt} (hx : x.left.length < f) (hg : x.gr = ⟨ns, D, path⟩) (h : run [.bracket] x = .yes z) : NodeB ns D path [] x z := by
  obtain ⟨s, g, push, y, ht, hy, hl, hlt, hr⟩ := runB_yes h
  rw [hg, take_bracket] at ht
  simp only at ht
  split at ht
  · rename_i hs
    split at ht
    · cases ht
    · split at ht
      · cases ht
      · injection ht with h1 h2
        subst h1; subst h2; subst hs
        obtain ⟨y1, e1, l1, lt1, hr⟩ := runB_word hr
        obtain ⟨k1, n, new, B, k2, k3, k4, k5⟩ := kindB hD (by omega) (by rw [e1, hy]) hr
        exact ⟨k1, n, new, B, k2, k3, by rw [← k4, hl, l1]; simp only [List.nil_append, List.append_assoc], k5⟩
  · cases ht
theorem dirB : ∀ f, DirB f
  | 0 => fun _ _ _ _ _ _ x _ hx => by omega
  | f + 1 => by
    intro ns D q P last p x z hx hg hP h
    obtain ⟨s, g, push, y, ht, hy, hl, hlt, hr⟩ := runB_yes h
    rw [hg, take_inDir] at ht
    simp only at ht
    split at ht
    · rename_i hs
      injection ht with h1 h2
      subst h1; subst h2; subst hs
      obtain ⟨y1, e1, l1, t1, hr⟩ := runB_word hr
      obtain ⟨y2, e2, l2, t2, hr⟩ := runB_word hr
      obtain ⟨nm, g3, push3, y3, ht3, hy3, l3, t3, hr⟩ := runB_yes hr
      rw [e2, e1, hy, take_name] at ht3
      simp only [lastD_snoc, setD_snoc] at ht3
      split at ht3
      · cases ht3
      · rename_i hnm
        split at ht3
        · cases ht3
        · injection ht3 with h1 h2
          subst h1; subst h2
          obtain ⟨y4, e4, l4, t4, hr⟩ := runB_word hr
          have hnm' : isNameB nm.data.toList = true := by simpa using hnm
          have hr : run ([.bracket] ++ [.word wClose, .inDir]) y4 = .yes z := hr
          rw [run_app] at hr
          cases hb : run [.bracket] y4 with
          | no e p => rw [hb] at hr; cases hr
          | yes y5 =>
            rw [hb] at hr
            have hr : run [.word wClose, .inDir] y5 = .yes z := hr
            have hl5 := run_len _ _ _ hb
            obtain ⟨d1, n, new, B1, d2, d3, d4, d5⟩ := nodeB (dirB f) (by omega) (by rw [e4, hy3]) hb
            obtain ⟨y6, e6, l6, t6, hr⟩ := runB_word hr
            obtain ⟨c1, new2, B2, c2, c3, c4, c5⟩ := dirB f y5.gr.nodes D q P nm y5.gr.path y6 z (by omega) (by
              rw [e6]
              cases hy5 : y5.gr
              rw [hy5] at d1
              simp only at d1
              rw [d1]) hP hr
            have hpd : (P ++ nm).data.toList = pin q.data.toList ++ nm.data.toList := by rw [data_append, hP, prefixIn_data]
            have hno := name_slash _ hnm'
            have hpre : pre n.path = P := by rw [d3]; exact ba_eqL (by rw [pre_data, hpd, preL_path _ _ hno, hP, prefixIn_data])
            have hnam : nam n.path = nm := by rw [d3]; exact ba_eqL (by rw [nam_data, hpd, namL_path _ _ hno])
            have hnn : nm.data.toList ≠ [] := isName_ne _ hnm'
            have hns : 0 < nm.size := by
              have : nm.size = nm.data.toList.length := by simp
              rw [this]; exact List.length_pos_iff.2 hnn
            have hpn : (P ++ nm).data.toList ≠ [] := by rw [data_append]; simp [hnn]
            have hz : (prefixIn (P ++ nm)).size = P.size + nm.size + 1 := by rw [prefixIn_size _ hpn, sizeApp]
            refine ⟨c1, n :: new ++ new2, bytesOf [wEntry, wOpen, wName, nm, wNode] ++ B1 ++ bytesOf [wClose] ++ B2, by rw [c2, d2]; simp, ?_, fun t ht => ?_, fun tail f' hf hst => ?_⟩
            · rw [hl, l1, l2, l3, l4]
              rw [List.nil_append] at d4
              rw [d4, l6, c3, bytes5, bytes1]
              simp only [List.append_assoc]
            · simp only [List.cons_append, List.head?_cons, Option.some.injEq] at ht
              rw [← ht]
              exact hpre
            · obtain ⟨f', rfl⟩ : ∃ k, f' = k + 1 := ⟨f' - 1, by simp only [List.cons_append, List.length_cons] at hf; omega⟩
              have hf2 : (new ++ (new2 ++ tail)).length ≤ f' := by simp only [List.cons_append, List.length_cons, List.length_append] at hf ⊢; omega
              have hf3 : (new2 ++ tail).length ≤ f' := by simp only [List.cons_append, List.length_cons, List.length_append] at hf ⊢; omega
              have e1 := d5 (new2 ++ tail) f' hf2 (fun t ht => by
                rw [hz]
                cases new2 with
                | nil =>
                  have := hst t ht
                  omega
                | cons a b =>
                  simp only [List.cons_append, List.head?_cons, Option.some.injEq] at ht
                  have := c4 a rfl
                  rw [← ht, this]
                  omega)
              have e2 := c5 tail f' hf3 hst
              have e3 : n :: new ++ new2 ++ tail = n :: (new ++ (new2 ++ tail)) := by simp
              rw [e3]
              simp only [entsF, if_pos hpre]
              rw [e1]
              simp only
              rw [e2, hnam]
    · split at ht
      · rename_i hs
        injection ht with h1 h2
        subst h1; subst h2; subst hs
        rw [List.nil_append, run_nil] at hr
        injection hr with hr
        subst hr
        rw [hy]
        refine ⟨by simp, [], [], by simp, by rw [hl]; rfl, (fun t ht => by cases ht), fun tail f' hf hst => ?_⟩
        rw [List.nil_append]
        cases f' with
        | zero => rfl
        | succ f' =>
          cases tail with
          | nil => rfl
          | cons t r =>
            have hne : ¬ pre t.path = P := fun e => by
              have := hst t rfl
              rw [e] at this
              omega
            simp only [entsF, if_neg hne]
      · cases ht
/-- BYTES THAT READ AS A TREE ARE THE BYTES OF THAT TREE. -/
theorem run_bytes {x z : Pt} (hg : x.gr = ⟨[], [], ⟨#[]⟩⟩) (h : run [.word wNar, .bracket] x = .yes z) : x.left = packBytes z.gr.nodes ++ z.left := by
  obtain ⟨y, e, l, _, hr⟩ := runB_word h
  obtain ⟨h1, n, new, B, h2, h3, h4, h5⟩ := nodeB (dirB (y.left.length + 1)) (by omega) (by rw [e, hg]) hr
  have h6 := h5 [] new.length (by simp) (fun t ht => by cases ht)
  rw [List.append_nil] at h6
  rw [List.nil_append] at h2 h4
  rw [h2]
  show x.left = bytesOf [wNar] ++ (nodeF (entsF new.length) n new).1 ++ z.left
  rw [h6, bytes1, l, h4]
  simp only [List.append_assoc]
theorem read_told (s : Bs) : readF s = told (run [.word wNar, .bracket] ⟨s, 0, ⟨[], [], ⟨#[]⟩⟩⟩) := by
  unfold readF rd0 feedF
  show closeF (runS ((⟨[], 0, [.word wNar, .bracket], ⟨[], [], ⟨#[]⟩⟩⟩ : St).left.length + s.length) _) = _
  rw [show (⟨[], 0, [.word wNar, .bracket], ⟨[], [], ⟨#[]⟩⟩⟩ : St).left.length + s.length = s.length by simp]
  exact close_run _ s 0 _ _ (Nat.le_refl _)
/-- Where an error lies. -/
theorem exec_at : ∀ (f : Nat) (K : List It) (x : Pt), (∀ e p, exec f K x = .no e p → (e == 0) = false ∧ p ≤ x.pos + x.left.length) ∧ (∀ z, exec f K x = .yes z → z.pos + z.left.length = x.pos + x.left.length)
  | f, [], x => by
    have h : exec f [] x = .yes x := by cases f <;> rfl
    rw [h]
    exact ⟨(fun e p h => by cases h), fun z h => by injection h with h; subst h; rfl⟩
  | 0, _ :: _, x => by
    simp only [exec]
    exact ⟨fun e p h => by injection h with h1 h2; subst h1; subst h2; exact ⟨rfl, Nat.le_refl _⟩, fun z h => by cases h⟩
  | f + 1, i :: K, x => by
    simp only [exec]
    cases ho : one i x with
    | no e' p' =>
      refine ⟨fun e p h => ?_, fun z h => by cases h⟩
      have h : (Ex.no e' p' : Ex Pt) = .no e p := h
      injection h with h1 h2
      subst h1; subst h2
      unfold one at ho
      split at ho
      · injection ho with h1 h2; subst h1; subst h2; exact ⟨rfl, Nat.le_refl _⟩
      · rename_i e'' hc
        injection ho with h1 h2; subst h1; subst h2
        exact ⟨by rcases cutF_bad hc with rfl | rfl <;> rfl, Nat.le_add_right _ _⟩
      · split at ho
        · rename_i e'' ht
          injection ho with h1 h2; subst h1; subst h2
          exact ⟨takeF_err ht, Nat.le_add_right _ _⟩
        · cases ho
    | yes y =>
      obtain ⟨y, push⟩ := y
      have hl := one_len ho
      obtain ⟨i1, i2⟩ := exec_at f (push ++ K) y
      refine ⟨fun e p h => ?_, fun z h => ?_⟩
      · have := i1 e p h
        exact ⟨this.1, by omega⟩
      · have := i2 z h
        omega
/-- WHAT IS TOLD OF ANY BYTES. -/
theorem read_all (s : Bs) : ((readF s).2.1 = 0 ∧ (readF s).2.2 = 0 ∧ packBytes (readF s).1 = s ∧ firstW (readF s).1 = none) ∨ ((readF s).2.1 ≠ 0 ∧ (readF s).1 = [] ∧ (readF s).2.2 ≤ s.length) := by
  rw [read_told]
  have ha := exec_at s.length [.word wNar, .bracket] ⟨s, 0, ⟨[], [], ⟨#[]⟩⟩⟩
  cases hr : run [.word wNar, .bracket] ⟨s, 0, ⟨[], [], ⟨#[]⟩⟩⟩ with
  | no e p =>
    have := ha.1 e p hr
    exact .inr ⟨beq_eq_false_iff_ne.1 this.1, rfl, by have := this.2; simpa [told] using this⟩
  | yes z =>
    have h1 := ha.2 z hr
    simp only [told]
    by_cases hl : z.left = []
    · rw [if_pos hl]
      have h2 := run_bytes rfl hr
      rw [hl, List.append_nil] at h2
      exact .inl ⟨rfl, rfl, h2.symm, (run_tree rfl hr).2.2⟩
    · rw [if_neg hl]
      refine .inr ⟨(show ¬ (10 : Int) = 0 by decide), rfl, ?_⟩
      simp only at h1 ⊢
      omega
end Go.Proofs.YtpbjdfobbnpjfaaDoor
