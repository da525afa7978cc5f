import Derived.Test.YticfcjmlphhpgaaGreatDoorA22
import Derived.Test.YticfcjmlphhpgaaGreatDoorA27
import Derived.Test.YticfcjmlphhpgaaGreatDoorA30
import Derived.Deep.RegionHeld3
/-
  THE DOCUMENT's STORES: what paths lead to (no memory here); an entry among the others.
-/
namespace Go.Proofs.YticfcjmlphhpgaaGreatDoor
open Go.RowKit
namespace HP
theorem mu_app {S : List Ent} {out : List ByteArray} {r : ByteArray} (hr : ∃ e ∈ S, e.path = r) (hno : inL out r = false) : mu S (out ++ [r]) < mu S out := by
  obtain ⟨e, he, rfl⟩ := hr
  refine countP_lt (fun x _ hx => ?_) ⟨e, he, by rw [hno]; rfl, by rw [inL_app]; simp⟩
  rw [inL_app, Bool.not_or, Bool.and_eq_true] at hx
  exact hx.1
/-- All that the roots lead to has been gathered. -/
theorem rch_all {S : List Ent} {roots all : List ByteArray} (h1 : ∀ x ∈ roots, x ∈ all) (h2 : ∀ x ∈ all, Rch S roots x) (h3 : ∀ e ∈ S, e.path ∈ all → ∀ r ∈ e.refs, r ∈ all) (p : ByteArray) : inL all p = rchB S roots p := by
  cases hc : rchB S roots p with
  | true => exact inL_iff.2 (Rch.least (Q := fun p => p ∈ all) h1 h3 (rchB_iff.1 hc))
  | false =>
    cases hi : inL all p with
    | false => rfl
    | true =>
      have := rchB_iff.2 (h2 p (inL_iff.1 hi))
      rw [hc] at this; cases this
/-- The first k of what is gathered have been gone through. -/
structure Ga (S : List Ent) (roots all : List ByteArray) (k : Nat) : Prop where
  kl : k ≤ all.length
  r : ∀ x ∈ roots, x ∈ all
  a : ∀ x ∈ all, Rch S roots x ∧ ∃ e ∈ S, e.path = x
  c : ∀ j (hj : j < all.length), j < k → ∀ e ∈ S, e.path = all[j] → ∀ r ∈ e.refs, r ∈ all
  l : all.length + mu S all ≤ roots.length + S.length
theorem Ga.start {S : List Ent} {roots : List ByteArray} (h : ∀ x ∈ roots, ∃ e ∈ S, e.path = x) : Ga S roots roots 0 := by
  refine ⟨Nat.zero_le _, fun _ hx => hx, fun x hx => ⟨.root hx, h x hx⟩, fun j _ hj => by omega, ?_⟩
  have : mu S roots ≤ S.length := List.countP_le_length
  omega
theorem Ga.app {S : List Ent} {roots all : List ByteArray} {k : Nat} (h : Ga S roots all k) {r : ByteArray} (hr : Rch S roots r) (hS : ∃ e ∈ S, e.path = r) (hno : inL all r = false) : Ga S roots (all ++ [r]) k := by
  have hk := h.kl
  refine ⟨by rw [List.length_append]; omega, fun x hx => List.mem_append_left _ (h.r x hx), fun x hx => ?_, fun j hj hjk e he hp r' hr' => ?_, ?_⟩
  · rcases List.mem_append.1 hx with hx | hx
    · exact h.a x hx
    · rw [List.mem_singleton.1 hx]; exact ⟨hr, hS⟩
  · rw [List.getElem_append_left (by omega)] at hp
    exact List.mem_append_left _ (h.c j (by omega) hjk e he hp r' hr')
  · have := mu_app hS hno
    have := h.l
    rw [List.length_append, List.length_singleton]; omega
theorem Ga.next {S : List Ent} {roots all : List ByteArray} {k : Nat} (h : Ga S roots all k) (hR : Rising S) {E : Ent} (hE : E ∈ S) (hk : all[k]? = some E.path) (hall : ∀ r ∈ E.refs, r ∈ all) : Ga S roots all (k + 1) := by
  obtain ⟨hkl, hke⟩ := List.getElem?_eq_some_iff.1 hk
  refine ⟨hkl, h.r, h.a, fun j hj hjk e he hp => ?_, h.l⟩
  by_cases e1 : j = k
  · subst e1
    rw [hke] at hp
    rw [rise_uniq hR he hE hp]
    exact hall
  · exact h.c j hj (by omega) e he hp
theorem Ga.done {S : List Ent} {roots all : List ByteArray} (h : Ga S roots all all.length) (p : ByteArray) : inL all p = rchB S roots p := by
  refine rch_all h.r (fun x hx => (h.a x hx).1) (fun e he hp r hr => ?_) p
  obtain ⟨j, hj, hje⟩ := List.getElem_of_mem hp
  exact h.c j hj hj e he hje.symm r hr
theorem next_at {P : ByteArray → Bool} {S : List Ent} {out : List ByteArray} (i : Nat) (hi : i < S.length) (hc : condB P out S[i] = true) (hall : ∀ j (hj : j < S.length), j < i → condB P out S[j] = false) : nextF P S out = some S[i] := by
  unfold nextF
  rw [List.find?_eq_some_iff_getElem]
  exact ⟨hc, i, hi, rfl, fun j hj => by rw [hall j (by omega) hj]; rfl⟩
theorem next_no {P : ByteArray → Bool} {S : List Ent} {out : List ByteArray} (hall : ∀ j (hj : j < S.length), condB P out S[j] = false) : nextF P S out = none := next_none fun x hx => by
  obtain ⟨j, hj, rfl⟩ := List.getElem_of_mem hx
  exact hall j hj
/-- The references up to some place are told. -/
def readyUp (out : List ByteArray) (e : Ent) (j : Nat) : Bool := (e.refs.take j).all fun r => decide (r = e.path) || inL out r
theorem readyUp_zero (out : List ByteArray) (e : Ent) : readyUp out e 0 = true := rfl
theorem readyUp_step (out : List ByteArray) (e : Ent) (j : Nat) (hj : j < e.refs.length) : readyUp out e (j + 1) = (readyUp out e j && (decide (e.refs[j] = e.path) || inL out e.refs[j])) := by
  unfold readyUp
  rw [List.take_succ_eq_append_getElem hj, List.all_append]
  simp
theorem readyUp_all (out : List ByteArray) (e : Ent) : readyUp out e e.refs.length = readyB out e := by
  unfold readyUp readyB
  rw [List.take_length]
end HP
/-- An entry more, in its place. -/
theorem REsAt.ins {w : World} {x : REn} {e : Ent} (hx : REAt w x e) : ∀ {l : List REn} {S : List Ent}, REsAt w l S → findS S e.path = none → REsAt w (insR l x) (insS e S)
  | [], [], _, _ => ⟨hx, trivial⟩
  | [], _ :: _, h, _ => h.elim
  | _ :: _, [], h, _ => h.elim
  | y :: l, f :: S, h, hf => by
    have hxp : x.path = e.path := hx.1
    have hyp : y.path = f.path := h.1.1
    unfold findS at hf
    rw [List.find?_cons] at hf
    have hne : (f.path.data.toList == e.path.data.toList) = false := by
      cases hc : (f.path.data.toList == e.path.data.toList) with
      | false => rfl
      | true => rw [hc] at hf; cases hf
    rw [hne] at hf
    have hne' := beq_eq_false_iff_ne.1 hne
    show REsAt w (insR (y :: l) x) (if bytesBefore e.path.data.toList f.path.data.toList = true then e :: f :: S else f :: insS e S)
    rw [before_less, ← bl_less]
    cases hb : bl f.path.data.toList e.path.data.toList with
    | true =>
      rw [bl_asym _ _ hb, if_neg (by simp)]
      have hN : belowN (y :: l) x.path = belowN l x.path + 1 := by
        unfold belowN
        rw [List.findIdx_cons, hyp, hxp, hb]; rfl
      have : insR (y :: l) x = y :: insR l x := by
        unfold insR
        rw [hN, List.take_succ_cons, List.drop_succ_cons]; rfl
      rw [this]
      exact ⟨h.1, REsAt.ins hx h.2 hf⟩
    | false =>
      have hb2 : bl e.path.data.toList f.path.data.toList = true := by
        rcases bl_tri e.path.data.toList f.path.data.toList with h1 | h1 | h1
        · exact h1
        · exact absurd h1.symm hne'
        · rw [hb] at h1; cases h1
      rw [hb2, if_pos rfl]
      have hN : belowN (y :: l) x.path = 0 := by
        unfold belowN
        rw [List.findIdx_cons, hyp, hxp, hb]; rfl
      have : insR (y :: l) x = x :: y :: l := by
        unfold insR
        rw [hN]; rfl
      rw [this]
      exact ⟨hx, h⟩
theorem own_ents {w : World} {B : Nat} {v : Value} {l : List REn} (h : w.ownsRow B 76 3 v l.length (flatR l)) : SliceE w v l := by
  rcases h.2 with ⟨rfl, h0⟩ | ⟨g, cap, cur, rfl, hB, hg, hn, hm, hs, ht⟩
  · have e0 : l = [] := List.eq_nil_of_length_eq_zero h0
    subst e0
    exact ⟨none, 0, rfl, Nat.le_refl _, fun h => by simp at h⟩
  · refine ⟨some ⟨g, 0, none⟩, cap, rfl, hn, fun _ => ⟨g, 0, rfl, lt_of_block hg, fun j hj => ?_⟩⟩
    obtain ⟨f0, f1, f2⟩ := flatR_get l j hj
    have hc := fun k (hk : k < l.length * 3) => h.cellAt k hk
    refine ⟨?_, ?_, ?_⟩
    · rw [Nat.zero_add]; exact (hc _ (by omega)).trans f0
    · rw [Nat.zero_add]; exact (hc _ (by omega)).trans f1
    · rw [Nat.zero_add]; exact (hc _ (by omega)).trans f2
end Go.Proofs.YticfcjmlphhpgaaGreatDoor
/-
  THE DOCUMENT's STORES, 5: Insert: its regions that leave their order open.
-/
namespace Go.Proofs.YticfcjmlphhpgaaGreatDoor
open Go.RowKit

/-- A region of a function, by its number. -/
def regO (n : Nat) : Code → Option Code
  | .region m ops d => if Nat.beq m n then some (.region m ops d) else none
  | .seq a b => match regO n a with
    | some c => some c
    | none => regO n b
  | .block _ c => regO n c
  | .scope c => regO n c
  | .loop c => regO n c
  | .cond _ a b => match regO n a with
    | some c => some c
    | none => regO n b
  | _ => none
theorem reg_then {N : Act → World → Prop} {Q : Exit → Act → World → Prop} (h : ∀ a w, N a w → Q .normal a w) : ∀ e a w, Exit.then N (fun _ _ _ => False) e a w → Q e a w := by
  intro e a w h'
  cases e <;> first | exact h _ _ h' | exact h'.elim
noncomputable def regC (f : Func) (n : Nat) : Code := ((f.body.bind (regO n)).getD .skip)

theorem cellB {w w' : World} {a : Addr} {u : Value} (h : Below w.heap.size w w') (hc : w.cell? a = some u) : w'.cell? a = some u := (h.cell (World.block_lt_of_cell? _ _ hc)).trans hc
set_option maxRecDepth 20000 in
set_option maxHeartbeats 4000000 in
theorem reg20_20 (b q be offe n cv k : Nat) (yp xp : ByteArray) (ta ra a5 a6 : Option Addr) (tn tc rn rc M c5 m6 c6 : Nat) (D : Bool) (w : World) (hkl : k < n) (c8 : w.cell? ⟨b, 0, none⟩ = some (.slice (some ⟨be, offe, none⟩) n cv)) (e80 : w.cell? ⟨be, offe + k * 3, none⟩ = some (.string yp)) (e81 : w.cell? ⟨be, offe + k * 3 + 1, none⟩ = some (.slice ta tn tc)) (e82 : w.cell? ⟨be, offe + k * 3 + 2, none⟩ = some (.slice ra rn rc)) (q80 : w.cell? ⟨q, 0, none⟩ = some (.string xp)) (q81 : w.cell? ⟨q, 1, none⟩ = some (.slice a5 M c5)) (q82 : w.cell? ⟨q, 2, none⟩ = some (.slice a6 m6 c6))
    (cE : ∀ V : World, Below w.heap.size w V → Calls Tryz.prog 40 #[.agg #[.string yp, .slice ta tn tc, .slice ra rn rc], .agg #[.string xp, .slice a5 M c5, .slice a6 m6 c6]] V fun e w' => e = .returned (.bool D) ∧ Below V.heap.size V w') (u1 u2 u3 u4 u5 u6 u7 u8 u9 u10 u11 u14 u15 u16 u17 u18 u19 u20 u21 u22 u23 u24 u25 u26 u27 u28 u29 u30 u31 u32 u33 u34 u35 u36 u37 u38 u39 u40 u41 u42 u43 u44 u45 u46 u47 u48 u49 u50 u51 u52 u53 u54 u55 u56 u57 u58 u59 u60 u61 u62 u63 u64 u65 u66 u67 u68 u69 u70 u71 u72 u73 u74 u75 u76 u77 u78 u79 u80 u81 u82 u83 u84 u85 u86 u87 u88 u89 u90 u91 u92 u93 u94 u95 u96 u97 : Value) :
    Code.wp Tryz.prog (regC Tryz.f20 20) (Exit.then (fun a w' => (∃ v73 v74 v75 v76 v77 v78 v79 v80 v81 : Value, a = ⟨#[.pointer (some ⟨b, 0, none⟩), u1, u2, u3, u4, u5, u6, u7, u8, u9, u10, u11, .pointer (some ⟨q, 0, none⟩), .int .i64 (k : Nat), u14, u15, u16, u17, u18, u19, u20, u21, u22, u23, u24, u25, u26, u27, u28, u29, u30, u31, u32, u33, u34, u35, u36, u37, u38, u39, u40, u41, u42, u43, u44, u45, u46, u47, u48, u49, u50, u51, u52, u53, u54, u55, u56, u57, u58, u59, u60, u61, u62, u63, u64, u65, u66, u67, u68, u69, u70, u71, u72, v73, v74, v75, v76, v77, v78, v79, v80, v81, .bool (!D), u83, u84, u85, u86, u87, u88, u89, u90, u91, u92, u93, u94, u95, u96, u97], []⟩) ∧ Below w.heap.size w w') (fun _ _ _ => False)) ⟨#[.pointer (some ⟨b, 0, none⟩), u1, u2, u3, u4, u5, u6, u7, u8, u9, u10, u11, .pointer (some ⟨q, 0, none⟩), .int .i64 (k : Nat), u14, u15, u16, u17, u18, u19, u20, u21, u22, u23, u24, u25, u26, u27, u28, u29, u30, u31, u32, u33, u34, u35, u36, u37, u38, u39, u40, u41, u42, u43, u44, u45, u46, u47, u48, u49, u50, u51, u52, u53, u54, u55, u56, u57, u58, u59, u60, u61, u62, u63, u64, u65, u66, u67, u68, u69, u70, u71, u72, u73, u74, u75, u76, u77, u78, u79, u80, u81, u82, u83, u84, u85, u86, u87, u88, u89, u90, u91, u92, u93, u94, u95, u96, u97], []⟩ w := by
  unfold regC
  conv => arg 2; whnf
  have HE := hide cE
  have hkz : (0 : Int) ≤ (k : Int) := by omega
  have hklz : (k : Int) < (n : Int) := by omega
  have HW0 := hide (drewB w)
  clear cE
  go_region_held3 (fun w' => w'.cell? ⟨b, 0, none⟩ = some (.slice (some ⟨be, offe, none⟩) n cv) ∧ w'.cell? ⟨be, offe + k * 3, none⟩ = some (.string yp) ∧ w'.cell? ⟨be, offe + k * 3 + 1, none⟩ = some (.slice ta tn tc) ∧ w'.cell? ⟨be, offe + k * 3 + 2, none⟩ = some (.slice ra rn rc) ∧ w'.cell? ⟨q, 0, none⟩ = some (.string xp) ∧ w'.cell? ⟨q, 1, none⟩ = some (.slice a5 M c5) ∧ w'.cell? ⟨q, 2, none⟩ = some (.slice a6 m6 c6)) (go_keep) (first
    | (go_at_call 40; refine (HE.out _ HW0.out).mono ?_; rintro e w9 ⟨rfl, hb9⟩; have HW9 := hide (HW0.out.trans hb9); have g0 := cellB HW9.out c8; have g1 := cellB HW9.out e80; have g2 := cellB HW9.out e81; have g3 := cellB HW9.out e82; have g4 := cellB HW9.out q80; have g5 := cellB HW9.out q81; have g6 := cellB HW9.out q82; clear hb9))
  exact ⟨⟨_, _, _, _, _, _, _, _, _, rfl⟩, HW9.out⟩
set_option maxRecDepth 20000 in
set_option maxHeartbeats 4000000 in
theorem reg20_25 (b q n cv : Nat) (av : Option Addr) (xp : ByteArray) (a5 a6 : Option Addr) (M c5 m6 c6 : Nat) (w : World) (c8 : w.cell? ⟨b, 0, none⟩ = some (.slice av n cv)) (q80 : w.cell? ⟨q, 0, none⟩ = some (.string xp)) (q81 : w.cell? ⟨q, 1, none⟩ = some (.slice a5 M c5)) (q82 : w.cell? ⟨q, 2, none⟩ = some (.slice a6 m6 c6)) (K : Value → World → Prop)
    (cE : ∀ V : World, Below w.heap.size w V → Calls Tryz.prog 41 #[.slice av n cv, .agg #[.string xp, .slice a5 M c5, .slice a6 m6 c6]] V fun e w' => ∃ a' n' c', e = .returned (.slice a' n' c') ∧ K (.slice a' n' c') w' ∧ w'.heap[b]? = some (.cells #[.slice av n cv] 48 (0, 0))) (u1 u2 u3 u4 u5 u6 u7 u8 u9 u10 u11 u13 u14 u15 u16 u17 u18 u19 u20 u21 u22 u23 u24 u25 u26 u27 u28 u29 u30 u31 u32 u33 u34 u35 u36 u37 u38 u39 u40 u41 u42 u43 u44 u45 u46 u47 u48 u49 u50 u51 u52 u53 u54 u55 u56 u57 u58 u59 u60 u61 u62 u63 u64 u65 u66 u67 u68 u69 u70 u71 u72 u73 u74 u75 u76 u77 u78 u79 u80 u81 u82 u83 u84 u85 u86 u87 u88 u89 u90 u91 u92 u93 u94 u95 u96 u97 : Value) :
    Code.wp Tryz.prog (regC Tryz.f20 25) (Exit.then (fun a w' => (∃ v89 v90 v91 v92 v93 v94 v95 v96 v97 : Value, a = ⟨#[.pointer (some ⟨b, 0, none⟩), u1, u2, u3, u4, u5, u6, u7, u8, u9, u10, u11, .pointer (some ⟨q, 0, none⟩), u13, u14, u15, u16, u17, u18, u19, u20, u21, u22, u23, u24, u25, u26, u27, u28, u29, u30, u31, u32, u33, u34, u35, u36, u37, u38, u39, u40, u41, u42, u43, u44, u45, u46, u47, u48, u49, u50, u51, u52, u53, u54, u55, u56, u57, u58, u59, u60, u61, u62, u63, u64, u65, u66, u67, u68, u69, u70, u71, u72, u73, u74, u75, u76, u77, u78, u79, u80, u81, u82, u83, u84, u85, u86, u87, u88, v89, v90, v91, v92, v93, v94, v95, v96, v97], []⟩) ∧ ∃ v w9, K v w9 ∧ w' = w9.setCell ⟨b, 0, none⟩ v ∧ w9.heap[b]? = some (.cells #[.slice av n cv] 48 (0, 0))) (fun _ _ _ => False)) ⟨#[.pointer (some ⟨b, 0, none⟩), u1, u2, u3, u4, u5, u6, u7, u8, u9, u10, u11, .pointer (some ⟨q, 0, none⟩), u13, u14, u15, u16, u17, u18, u19, u20, u21, u22, u23, u24, u25, u26, u27, u28, u29, u30, u31, u32, u33, u34, u35, u36, u37, u38, u39, u40, u41, u42, u43, u44, u45, u46, u47, u48, u49, u50, u51, u52, u53, u54, u55, u56, u57, u58, u59, u60, u61, u62, u63, u64, u65, u66, u67, u68, u69, u70, u71, u72, u73, u74, u75, u76, u77, u78, u79, u80, u81, u82, u83, u84, u85, u86, u87, u88, u89, u90, u91, u92, u93, u94, u95, u96, u97], []⟩ w := by
  unfold regC
  conv => arg 2; whnf
  have HE := hide cE
  have HW0 := hide (drewB w)
  clear cE
  go_region_with (go_at_call 41; refine (HE.out _ HW0.out).mono ?_; rintro e w9 ⟨a9, n9, c9, rfl, hP9, hk9⟩; have HP9 := hide hP9; have c9b : w9.cell? ⟨b, 0, none⟩ = some (.slice av n cv) := (by simp [World.cell?, hk9]); have f9b : w9.frozen? ⟨b, 0, none⟩ = false := (by simp [World.frozen?, hk9]); have HK9 := hide hk9; clear hP9 hk9)
  all_goals exact ⟨⟨_, _, _, _, _, _, _, _, _, rfl⟩, _, w9, HP9.out, rfl, HK9.out⟩
end Go.Proofs.YticfcjmlphhpgaaGreatDoor
/-
  THE DOCUMENT's STORES, 5: Insert.
-/
namespace Go.Proofs.YticfcjmlphhpgaaGreatDoor
open Go.RowKit

theorem firstW_ref (ns : List Nd) : firstW ns = refWrong ns := firstW_eq ns
theorem strs_cells {w : World} {b off : Nat} {ss : List ByteArray} (h : ∀ j (h : j < ss.length), w.cell? ⟨b, off + j, none⟩ = some (.string ss[j])) : ∀ j u, (ss.map Value.string)[j]? = some u → w.cell? ((⟨b, off, none⟩ : Addr).add j) = some u := by
  intro j u hj
  have hl : j < ss.length := by have := (List.getElem?_eq_some_iff.1 hj).1; simpa using this
  have hadd : (⟨b, off, none⟩ : Addr).add j = ⟨b, off + j, none⟩ := by unfold Addr.add; split <;> simp_all
  rw [hadd, h j hl]
  simpa [hl] using hj
/-- A list of texts, copied. -/
theorem wpList_append_strs {w : World} {ops : Array Oper} {rest : List Oper} {o : Oper} {a : Act} {Q : Exit → Act → World → Prop} (hgd : o.guard = none) (y : Operand) (ho : o.op = .call { callee := .builtin .append, args := #[.const (.slice none 0 0), y], argTypes := #[26, 26] }) (ss : List ByteArray) (v : Value) (hx : a.eval y = v) (hS : SliceS w v ss) (hnil : ∀ n c, v = .slice none n c → n = 0 ∧ c = 0) (hl : ss.length ≤ 1000000)
    (h : ∀ a' c' w', w'.ownsRow w.heap.size 9 1 (.slice a' ss.length c') ss.length (ss.map Value.string) → Below w.heap.size w w' → wpList Tryz.prog ops Q rest (a.put o.dst (.slice a' ss.length c')) w') : wpList Tryz.prog ops Q (o :: rest) a w := by
  obtain ⟨i9, hi9, h90, h91, h92⟩ := info_parts Tryz.info9
  obtain ⟨a1, c1, rfl, hc1, hcE⟩ := hS
  have hfin : ∀ v' w', w'.ownsRow w.heap.size 9 1 v' (0 + ss.length) ([] ++ ss.map Value.string) → w.grownBy w' (Value.slice none 0 0).ownBlock → wpList Tryz.prog ops Q rest (a.put o.dst v') w' := fun v' w' ho' hg => by
    rw [Nat.zero_add, List.nil_append] at ho'
    obtain ⟨a', c', rfl, _⟩ := own_sl ho'
    exact h a' c' w' ho' ((Below.refl _ w).grown hg (Nat.le_refl _) (fun k hk => by cases hk))
  cases a1 with
  | none =>
    obtain ⟨e1, e2⟩ := hnil _ _ rfl
    have e0 : ss = [] := List.eq_nil_of_length_eq_zero e1
    subst e0
    subst e2
    refine wpList_append_own_none hgd (.const (.slice none 0 0)) y 26 ho w.heap.size 9 i9 1 Tryz.underlying26 hi9 (.slice none 0 0) 0 [] rfl (World.ownsRow_nil _ _ _ _) hx ?_
    exact h none 0 w (World.ownsRow_nil _ _ _ _) (Below.refl _ _)
  | some ad =>
    refine wpList_append_own _ hgd (.const (.slice none 0 0)) y 26 ho w.heap.size 9 i9 (.string ⟨#[]⟩) 1 16 Tryz.underlying26 hi9 h90 h91 h92 rfl (by decide) (.slice none 0 0) 0 [] rfl (World.ownsRow_nil _ _ _ _) ad ss.length c1 (ss.map Value.string) hx (by simp) ?_ (fun u hu => by obtain ⟨z, _, rfl⟩ := List.mem_map.1 hu; rfl) (by unfold maxLen; omega) (by omega) (Nat.le_refl _) (fun v' w' h1 h2 _ => hfin v' w' h1 h2)
    by_cases hp : 0 < ss.length
    · obtain ⟨b1, off1, hba, _, hC⟩ := hcE hp
      injection hba with hba
      subst hba
      exact strs_cells hC
    · intro j u hj
      have e0 : ss = [] := List.eq_nil_of_length_eq_zero (by omega)
      subst e0
      simp at hj
theorem built76 (p : ByteArray) (a1 a2 : Option Addr) (n1 c1 n2 c2 : Nat) :
    Tryz.prog.built 76 [(0, .string p), (1, .slice a1 n1 c1), (2, .slice a2 n2 c2)] = some #[.string p, .slice a1 n1 c1, .slice a2 n2 c2] := by
  kernel_rfl
theorem wp_build76 {o : Oper} {a : Act} {w : World} {K : Act → World → Prop} {Q : Exit → Act → World → Prop} (t0 t1 t2 : Operand) (ho : o.op = .build 76 #[(0, t0), (1, t1), (2, t2)])
    (p : ByteArray) (a1 a2 : Option Addr) (n1 c1 n2 c2 : Nat) (h0 : a.eval t0 = .string p) (h1 : a.eval t1 = .slice a1 n1 c1) (h2 : a.eval t2 = .slice a2 n2 c2)
    (h : K (a.put o.dst (.agg #[.string p, .slice a1 n1 c1, .slice a2 n2 c2])) w) : o.wp Tryz.prog a w K Q := by
  refine wp_build 76 _ ho ?_ ?_
  · simp [h0, h1, h2, built76]
  · simpa [h0, h1, h2, built76] using h
theorem wpList_build76 {ops : Array Oper} {rest : List Oper} {o : Oper} {a : Act} {w : World} {Q : Exit → Act → World → Prop} (hg : o.guard = none) (t0 t1 t2 : Operand) (ho : o.op = .build 76 #[(0, t0), (1, t1), (2, t2)])
    (p : ByteArray) (a1 a2 : Option Addr) (n1 c1 n2 c2 : Nat) (h0 : a.eval t0 = .string p) (h1 : a.eval t1 = .slice a1 n1 c1) (h2 : a.eval t2 = .slice a2 n2 c2)
    (h : wpList Tryz.prog ops Q rest (a.put o.dst (.agg #[.string p, .slice a1 n1 c1, .slice a2 n2 c2])) w) : wpList Tryz.prog ops Q (o :: rest) a w :=
  wpList_plain hg fun _ hK => wp_build76 t0 t1 t2 ho p a1 a2 n1 c1 n2 c2 h0 h1 h2 (hK _ _ h)
theorem cell6 {w1 wr w5 w6 : World} {b : Nat} {v : Value} {t : TypeId} {fr : Nat × Nat} (h4 : Below w1.heap.size w1 wr) (h5 : Below wr.heap.size wr w5) (h6 : Below w5.heap.size w5 w6) (h : w1.heap[b]? = some (.cells #[v] t fr)) : w6.cell? ⟨b, 0, none⟩ = some v := by
  have hb : b < w1.heap.size := lt_of_block h
  have h' := ((h4.trans ((h5.trans (h6.mono h5.size)).mono h4.size)).block b hb).trans h
  simp [World.cell?, h']
theorem cell7 {w6 : World} {b : Nat} {v : Value} (h : w6.cell? ⟨b, 0, none⟩ = some v) (o : Obj) : (w6.alloc o).cell? ⟨b, 0, none⟩ = some v :=
  (((Below.refl w6.heap.size w6).alloc (Nat.le_refl _) o).cell (World.block_lt_of_cell? w6 _ h)).trans h
theorem rput_any {V : World} {av : Option Addr} {l : List REn} {cv : Nat} (h : SliceE V (.slice av l.length cv) l) (hl : l.length < 10) (x : REn) (hnil : l = [] → Value.slice av l.length cv = .slice none 0 0) :
    Calls Tryz.prog 41 #[.slice av l.length cv, .agg #[.string x.path, x.tree, x.refs]] V fun e w' => ∃ v, e = .returned v ∧ w'.ownsRow V.heap.size 76 3 v (insR l x).length (flatR (insR l x)) ∧ Below V.heap.size V w' := by
  by_cases h0 : l = []
  · subst h0
    rw [hnil rfl]
    exact rput_none x V
  · obtain ⟨a, c, e, hc, hE⟩ := h
    have hpos : 0 < l.length := List.length_pos_iff.2 h0
    obtain ⟨b, off, rfl, hb, hX⟩ := hE hpos
    have hlen : (insR l x).length = l.length + 1 := by
      unfold insR
      simp only [List.length_append, List.length_take, List.length_drop, List.length_singleton]
      have : belowN l x.path ≤ l.length := List.findIdx_le_length
      omega
    rw [hlen, e]
    exact rput_some b off c l x V hb hc hX (by omega) hpos
theorem one_cell {x y : Value} {i : Nat} (h : (#[x] : Array Value)[i]? = some y) : x = y := by
  cases i with
  | zero => simpa using h
  | succ i => simp at h
theorem far_cell {w : World} {b n c k : Nat} {a : Option Addr} {t : TypeId} {fz : Nat × Nat} {s : ByteArray} {b' : Nat} (hk : w.heap[b]? = some (.cells #[.slice a n c] t fz)) (h : w.cell? ⟨b', k, none⟩ = some (.string s)) : b ≠ b' := fun e => by
  subst e
  simp only [World.cell?, hk] at h
  have := one_cell h
  cases this
theorem sliceS_set {w : World} {b n c : Nat} {a : Option Addr} {t : TypeId} {fz : Nat × Nat} {v x : Value} {ss : List ByteArray} (hk : w.heap[b]? = some (.cells #[.slice a n c] t fz)) (h : SliceS w x ss) : SliceS (w.setCell ⟨b, 0, none⟩ v) x ss := by
  obtain ⟨a1, c1, rfl, h1, h2⟩ := h
  refine ⟨a1, c1, rfl, h1, fun hp => ?_⟩
  obtain ⟨b', off, rfl, h3, h4⟩ := h2 hp
  refine ⟨b', off, rfl, by simp [World.setCell]; exact h3, fun j hj => ?_⟩
  have := h4 j hj
  rw [World.cell?_setCell_far _ _ _ _ (far_cell hk this)]
  exact this
theorem sliceN_set {w : World} {b n c : Nat} {a : Option Addr} {t : TypeId} {fz : Nat × Nat} {v x : Value} {ns : List Nd} (hk : w.heap[b]? = some (.cells #[.slice a n c] t fz)) (h : SliceN w x ns) : SliceN (w.setCell ⟨b, 0, none⟩ v) x ns := by
  obtain ⟨a1, c1, rfl, h1, h2, h3, h4⟩ := h
  refine ⟨a1, c1, rfl, h1, h2, h3, fun hp => ?_⟩
  obtain ⟨b', off, rfl, h5, h6⟩ := h4 hp
  refine ⟨b', off, rfl, by simp [World.setCell]; exact h5, fun j hj => ?_⟩
  have h7 := h6 j hj
  have hne := far_cell hk h7.1
  rw [World.cell?_setCell_far _ _ _ _ hne, World.cell?_setCell_far _ _ _ _ hne, World.cell?_setCell_far _ _ _ _ hne]
  exact h7
/-- An entry more in the store. -/
theorem RSt.put {w1 w8 w10 : World} {b n c : Nat} {a : Option Addr} {S : List Ent} {x : Ent} {v : Value} {l : List REn} {y : REn} (hre : REsAt w8 l S) (hx : REAt w8 y x) (hf : findS S x.path = none)
    (ho : w10.ownsRow w8.heap.size 76 3 v (insR l y).length (flatR (insR l y))) (hb : Below w8.heap.size w8 w10) (hk : w10.heap[b]? = some (.cells #[.slice a n c] 48 (0, 0))) (hb8 : Below w1.heap.size w1 w8) (hblt : b < w1.heap.size) :
    RSt (w10.setCell ⟨b, 0, none⟩ v) b (insS x S) ∧ Wrote b w1 (w10.setCell ⟨b, 0, none⟩ v) := by
  have h18 := hb8.trans (hb.mono hb8.size)
  refine ⟨⟨v, insR l y, set_blk hk 0 v, own_ents (own_keepT ho (set_keepT hk (by decide))), ?_, fun e => ?_⟩, ⟨?_, fun k hkl hne => ?_⟩, fun B hB => ?_⟩
  · exact (REsAt.ins hx hre hf).mono (fun v ns h => sliceN_set hk (h.below hb)) (fun v ss h => sliceS_set hk (h.below hb))
  · cases S with
    | nil => cases e
    | cons z S =>
      have e2 : insS x (z :: S) = if bytesBefore x.path.data.toList z.path.data.toList then x :: z :: S else z :: insS x S := rfl
      rw [e2] at e
      split at e <;> cases e
  · have := h18.size
    simp [World.setCell]; exact this
  · exact (Below.heap_setCell _ _ _ _ hne).trans (h18.block k hkl)
  · exact (h18.mono (by omega)).setCell hB _
end Go.Proofs.YticfcjmlphhpgaaGreatDoor
/-
  THE DOCUMENT's STORES: Get.
-/
namespace Go.Proofs.YticfcjmlphhpgaaGreatDoor
open Go.RowKit

theorem undrewB {w V w' : World} (h : Below w.heap.size w V) (h' : Below V.drew.heap.size V.drew w') : Below w.heap.size w w' := h.trans ((undrew h').mono h.size)
set_option maxRecDepth 20000 in
set_option maxHeartbeats 4000000 in
theorem reg43_4 (b r be offe n cv k : Nat) (ta ra : Option Addr) (tn tc rn rc : Nat) (pk sm : ByteArray) (w : World) (hne1 : r ≠ b) (hne2 : r ≠ be) (hkl : k < n) (c8 : w.cell? ⟨b, 0, none⟩ = some (.slice (some ⟨be, offe, none⟩) n cv)) (e81 : w.cell? ⟨be, offe + k * 3 + 1, none⟩ = some (.slice ta tn tc)) (e82 : w.cell? ⟨be, offe + k * 3 + 2, none⟩ = some (.slice ra rn rc)) (hrb : w.heap[r]? = some (.cells #[.slice none 0 0, .slice none 0 0, .string ⟨#[]⟩] 80 (0, 0)))
    (cP : ∀ V : World, Below w.heap.size w V → Calls Tryz.prog 50 #[.slice ta tn tc] V fun e w' => e = .returned (.string pk) ∧ Below V.heap.size V w') (cS : ∀ V : World, Calls Tryz.prog 52 #[.string pk] V fun e w' => e = .returned (.string sm) ∧ Below V.heap.size V w') (u1 u2 u3 u5 u7 u8 u9 u10 u11 u12 u13 u14 u15 u16 u17 u18 u19 u20 u21 u22 u23 u24 u25 u26 u27 u28 u29 u30 u31 u32 u33 u34 u35 u36 u37 u38 u39 u40 u41 u42 : Value) :
    Code.wp Tryz.prog (regC Tryz.f43 4) (Exit.then (fun a w' => (∃ v16 v17 v18 v19 v20 v21 v22 v23 v24 v25 v26 v27 v28 v29 v30 v31 v32 v33 v34 v35 v36 v37 v38 v39 v40 v41 v42 : Value, a = ⟨#[.pointer (some ⟨b, 0, none⟩), u1, u2, u3, .pointer (some ⟨r, 0, none⟩), .bool true, .int .i64 (k : Nat), u7, u8, u9, u10, u11, u12, u13, u14, u15, v16, v17, v18, v19, v20, v21, v22, v23, v24, v25, v26, v27, v28, v29, v30, v31, v32, v33, v34, v35, v36, v37, v38, v39, v40, v41, v42], []⟩) ∧ ∃ w3, Below w.heap.size w w3 ∧ w3.heap[r]? = some (.cells #[.slice none 0 0, .slice none 0 0, .string ⟨#[]⟩] 80 (0, 0)) ∧ w' = ((w3.setCell ⟨r, 0, none⟩ (.slice ta tn tc)).setCell ⟨r, 1, none⟩ (.slice ra rn rc)).setCell ⟨r, 2, none⟩ (.string sm)) (fun _ _ _ => False)) ⟨#[.pointer (some ⟨b, 0, none⟩), u1, u2, u3, .pointer (some ⟨r, 0, none⟩), u5, .int .i64 (k : Nat), u7, u8, u9, u10, u11, u12, u13, u14, u15, u16, u17, u18, u19, u20, u21, u22, u23, u24, u25, u26, u27, u28, u29, u30, u31, u32, u33, u34, u35, u36, u37, u38, u39, u40, u41, u42], []⟩ w := by
  unfold regC
  conv => arg 2; whnf
  have HP := hide cP
  have HS := hide cS
  have hkz : (0 : Int) ≤ (k : Int) := by omega
  have hklz : (k : Int) < (n : Int) := by omega
  have HW0 := hide (drewB w)
  have HRB := hide hrb
  have hne3 := hne1.symm
  have hne4 := hne2.symm
  clear cP cS hrb
  go_region_held3 (fun w' => w'.cell? ⟨b, 0, none⟩ = some (.slice (some ⟨be, offe, none⟩) n cv) ∧ w'.cell? ⟨be, offe + k * 3 + 1, none⟩ = some (.slice ta tn tc) ∧ w'.cell? ⟨be, offe + k * 3 + 2, none⟩ = some (.slice ra rn rc)) (go_keep) (first
    | (go_at_call 50; refine (HP.out _ HW0.out).mono ?_; rintro e w1 ⟨rfl, hb1⟩; have HW1 := hide (HW0.out.trans (hb1.mono HW0.out.size)); have g0 := cellB HW1.out c8; have g1 := cellB HW1.out e81; have g2 := cellB HW1.out e82; clear hb1)
    | (go_at_call 52; refine (HS.out _).mono ?_; rintro e w2 ⟨rfl, hb2⟩; have HW2 : Hid (Below w.heap.size w w2) := hide (by first | exact undrewB HW1.out hb2 | exact HW1.out.trans (hb2.mono HW1.out.size)); have g3 := cellB HW2.out c8; have g4 := cellB HW2.out e81; have g5 := cellB HW2.out e82; have k2 := (HW2.out.block r (lt_of_block HRB.out)).trans HRB.out; have k20 : w2.cell? ⟨r, 0, none⟩ = some (.slice none 0 0) := (by simp [World.cell?, k2]); have k21 : w2.cell? ⟨r, 1, none⟩ = some (.slice none 0 0) := (by simp [World.cell?, k2]); have k22 : w2.cell? ⟨r, 2, none⟩ = some (.string ⟨#[]⟩) := (by simp [World.cell?, k2]); have f20 : w2.frozen? ⟨r, 0, none⟩ = false := (by simp [World.frozen?, k2]); have f21 : w2.frozen? ⟨r, 1, none⟩ = false := (by simp [World.frozen?, k2]); have f22 : w2.frozen? ⟨r, 2, none⟩ = false := (by simp [World.frozen?, k2]); have HK2 := hide k2; clear hb2 k2))
  exact ⟨⟨_, _, _, _, _, _, _, _, _, _, _, _, _, _, _, _, _, _, _, _, _, _, _, _, _, _, _, rfl⟩, w2, HW2.out, HK2.out, rfl⟩
/-- What Get tells of a path: its nodes, its references, the sum. -/
def nodesR (S : List Ent) (p : ByteArray) : List Nd := match findS S p with
  | some E => E.nodes
  | none => []
def refsR (S : List Ent) (p : ByteArray) : List ByteArray := match findS S p with
  | some E => E.refs
  | none => []
def sumB (ns : List Nd) : ByteArray := ⟨(le (Sm.fnv (packB ns).data.toList) 8).toArray⟩
def sumR (S : List Ent) (p : ByteArray) : ByteArray := match findS S p with
  | some E => sumB E.nodes
  | none => ⟨#[]⟩
set_option maxRecDepth 20000 in
set_option maxHeartbeats 4000000 in
theorem rGet_any (b : Nat) (S : List Ent) (p : ByteArray) (w : World) (h : RSt w b S) (hG : GoodS S) (hpk : ∀ e ∈ S, (packB e.nodes).size ≤ 50000000) :
    Calls Tryz.prog 43 #[.pointer (some ⟨b, 0, none⟩), .string p] w fun e w' => ∃ vt vr, e = .returned (.tuple #[.agg #[vt, vr, .string (sumR S p)], .bool (findS S p).isSome]) ∧ SliceN w' vt (nodesR S p) ∧ SliceS w' vr (refsR S p) ∧ Below w.heap.size w w' := by
  have hb0 : Below w.heap.size w (w.alloc (.cells #[.slice none 0 0, .slice none 0 0, .string ⟨#[]⟩] 80)) := (Below.refl _ w).alloc (Nat.le_refl _) _
  have K0 := hide (block_new w (.cells #[.slice none 0 0, .slice none 0 0, .string ⟨#[]⟩] 80))
  have H := hide (h.below hb0)
  have HG := hide hG
  have HB0 := hide hb0
  obtain ⟨v, l, hS1, hS2, hS3, hS4⟩ := h.at_
  obtain ⟨av, cv, rfl, hcv, hcE⟩ := hS2
  have hl10 : l.length ≤ 10 := by have := hS3.length; have := hG.few; omega
  have HS2 : Hid (SliceE w (.slice av l.length cv) l) := hide ⟨av, cv, rfl, hcv, hcE⟩
  have HS3 := hide hS3
  have c0 : (w.alloc (.cells #[.slice none 0 0, .slice none 0 0, .string ⟨#[]⟩] 80)).cell? ⟨b, 0, none⟩ = some (.slice av l.length cv) := cellB hb0 (by simp [World.cell?, hS1])
  have cA := hide (at_any (.slice av l.length cv) l p _ (HS2.out.below hb0) (by omega))
  have hblt := lt_of_block hS1
  clear h hb0 hS1 hS3 hS4 hG
  unfold nodesR refsR sumR
  rcases HS3.out.find p with ⟨hf1, hf2⟩ | ⟨k, hk1, hk2, hf1, hf2⟩
  · rw [hf1]
    rw [hf2] at cA
    clear hcE hf1 hf2
    go_enter Tryz.func43, Tryz.ntmps43
    go_wp2_with fail
    refine cA.out.mono ?_
    rintro e w1 ⟨rfl, hb1⟩
    have HB1 := hide (HB0.out.trans (hb1.mono HB0.out.size))
    have k1 := (hb1.block w.heap.size (lt_of_block K0.out)).trans K0.out
    have k10 : w1.cell? ⟨w.heap.size, 0, none⟩ = some (.slice none 0 0) := by simp [World.cell?, k1]
    have k11 : w1.cell? ⟨w.heap.size, 1, none⟩ = some (.slice none 0 0) := by simp [World.cell?, k1]
    have k12 : w1.cell? ⟨w.heap.size, 2, none⟩ = some (.string ⟨#[]⟩) := by simp [World.cell?, k1]
    have f10 : w1.frozen? ⟨w.heap.size, 0, none⟩ = false := by simp [World.frozen?, k1]
    have f11 : w1.frozen? ⟨w.heap.size, 1, none⟩ = false := by simp [World.frozen?, k1]
    have f12 : w1.frozen? ⟨w.heap.size, 2, none⟩ = false := by simp [World.frozen?, k1]
    have K1 := hide k1
    clear hb1 cA k1 c0
    go_wp2
    refine bodyPost_ret (results_cell_two rfl _ _ w.heap.size 80 _ (0, 0) _ rfl (row3 K1.out) Tryz.underlying80 rfl (by kernel_rfl)) rfl ?_
    exact ⟨_, _, rfl, ⟨none, 0, rfl, by simp, by simp [maxLen], fun _ => rfl, fun h => by simp at h⟩, ⟨none, 0, rfl, by simp, fun h => by simp at h⟩, ((HB1.out.setCell (Nat.le_refl _) _).setCell (Nat.le_refl _) _).setCell (Nat.le_refl _) _⟩
  · rw [hf2]
    rw [hf1] at cA
    obtain ⟨_, hy1, hy2⟩ := HS3.out.get k hk1 hk2
    have HTS := hide (HG.out.tree S[k] (List.getElem_mem _))
    have HPK := hide (hpk S[k] (List.getElem_mem _))
    obtain ⟨be, offe, rfl, hbl, hE⟩ := hcE (by omega)
    obtain ⟨_, e1, e2⟩ := hE k hk1
    have HY1 := hide hy1
    have HY2 := hide hy2
    have HC : Hid (w.cell? ⟨be, offe + k * 3 + 1, none⟩ = some l[k].tree ∧ w.cell? ⟨be, offe + k * 3 + 2, none⟩ = some l[k].refs) := hide ⟨e1, e2⟩
    clear hcE hf1 hf2 hy1 hy2 hE e1 e2 hpk
    generalize l[k] = y at *
    obtain ⟨yp, ta, tn, tc, ra, rn, rc⟩ := y
    unfold REn.tree REn.refs at *
    simp only at HY1 HY2 HC
    go_enter Tryz.func43, Tryz.ntmps43
    go_wp2_with fail
    refine cA.out.mono ?_
    rintro e w1 ⟨rfl, hb1⟩
    have HB1 := hide (HB0.out.trans (hb1.mono HB0.out.size))
    have c1 := cellB hb1 c0
    have K1 := hide ((hb1.block w.heap.size (lt_of_block K0.out)).trans K0.out)
    have hkz : ¬ (k : Int) < 0 := by omega
    clear hb1 cA c0
    go_wp2
    refine wp_mono (reg43_4 b w.heap.size be offe l.length cv k ta ra tn tc rn rc (packB S[k].nodes) (sumB S[k].nodes) w1 (by omega) (by omega) hk1 c1 (cellB HB1.out HC.out.1) (cellB HB1.out HC.out.2) K1.out (fun V hV => refPack_tree _ _ V ((HY1.out.below HB1.out).below hV) HTS.out) (fun V => Sm.ref_any _ V (by have := HPK.out; unfold maxLen; omega)) _ _ _ _ _ _ _ _ _ _ _ _ _ _ _ _ _ _ _ _ _ _ _ _ _ _ _ _ _ _ _ _ _ _ _ _ _ _ _ _) (reg_then ?_)
    rintro a w' ⟨⟨v16, v17, v18, v19, v20, v21, v22, v23, v24, v25, v26, v27, v28, v29, v30, v31, v32, v33, v34, v35, v36, v37, v38, v39, v40, v41, v42, rfl⟩, w3, hb3, hk3, rfl⟩
    have HB3 := hide (HB1.out.trans (hb3.mono HB1.out.size))
    have HK3 := hide hk3
    clear hb3 hk3 c1
    go_wp2
    refine bodyPost_ret (results_cell_two rfl _ _ w.heap.size 80 _ (0, 0) _ rfl (row3 HK3.out) Tryz.underlying80 rfl (by kernel_rfl)) rfl ?_
    refine ⟨_, _, rfl, ?_, ?_, ((HB3.out.setCell (Nat.le_refl _) _).setCell (Nat.le_refl _) _).setCell (Nat.le_refl _) _⟩
    · exact HY1.out.below (((HB3.out.setCell (Nat.le_refl _) _).setCell (Nat.le_refl _) _).setCell (Nat.le_refl _) _)
    · exact HY2.out.below (((HB3.out.setCell (Nat.le_refl _) _).setCell (Nat.le_refl _) _).setCell (Nat.le_refl _) _)
end Go.Proofs.YticfcjmlphhpgaaGreatDoor
/-
  THE DOCUMENT's STORES: Closure.
-/
namespace Go.Proofs.YticfcjmlphhpgaaGreatDoor
open Go.RowKit

set_option maxRecDepth 20000 in
set_option maxHeartbeats 4000000 in
theorem reg28_12 (b g be offe n cv m ca k i : Nat) (z : ByteArray) (ra : Option Addr) (rn rc : Nat) (w : World) (hkm : k < m) (hin : i < n) (c8 : w.cell? ⟨b, 0, none⟩ = some (.slice (some ⟨be, offe, none⟩) n cv)) (ck : w.cell? ⟨g, k, none⟩ = some (.string z)) (e82 : w.cell? ⟨be, offe + i * 3 + 2, none⟩ = some (.slice ra rn rc))
    (cA : ∀ V : World, Below w.heap.size w V → Calls Tryz.prog 39 #[.slice (some ⟨be, offe, none⟩) n cv, .string z] V fun e w' => e = .returned (.int .i64 (i : Nat)) ∧ Below V.heap.size V w') (u1 u2 u3 u4 u5 u7 u8 u10 u11 u12 u13 u14 u15 u16 u17 u18 u19 u20 u21 u22 u23 u24 u25 u26 u27 u28 u29 u30 u31 u32 u33 u34 u35 u36 u37 u38 u39 u40 u41 u42 u43 u44 u45 u46 u47 u48 u49 u50 u51 u52 u53 u54 u55 u56 u57 u58 u59 u60 u61 u62 u63 u64 u65 u66 u67 u68 u69 u70 u71 u72 u73 u74 u75 u76 u77 u78 u79 u80 u81 u82 u83 u84 u85 u86 u87 u88 u89 u90 u91 u92 u93 u94 u95 u96 u97 u98 u99 u100 u101 u102 u103 u104 u105 u106 u107 u108 u109 u110 u111 u112 u113 u114 u115 u116 u117 u118 u119 u120 u121 : Value) :
    Code.wp Tryz.prog (regC Tryz.f28 12) (Exit.then (fun a w' => (∃ v43 v44 v45 v46 v47 v48 v49 v50 v51 v52 v53 v54 v55 v56 v57 : Value, a = ⟨#[.pointer (some ⟨b, 0, none⟩), u1, u2, u3, u4, u5, .slice (some ⟨g, 0, none⟩) m ca, u7, u8, .int .i64 (k : Nat), u10, u11, u12, u13, u14, u15, u16, u17, u18, u19, u20, u21, u22, u23, u24, u25, u26, u27, u28, u29, u30, u31, u32, u33, u34, u35, u36, u37, u38, u39, u40, u41, u42, v43, v44, v45, v46, v47, v48, v49, v50, v51, v52, v53, v54, v55, v56, v57, .slice ra rn rc, .int .i64 (rn : Nat), .int .i64 0, u61, u62, u63, u64, u65, u66, u67, u68, u69, u70, u71, u72, u73, u74, u75, u76, u77, u78, u79, u80, u81, u82, u83, u84, u85, u86, u87, u88, u89, u90, u91, u92, u93, u94, u95, u96, u97, u98, u99, u100, u101, u102, u103, u104, u105, u106, u107, u108, u109, u110, u111, u112, u113, u114, u115, u116, u117, u118, u119, u120, u121], []⟩) ∧ Below w.heap.size w w') (fun _ _ _ => False)) ⟨#[.pointer (some ⟨b, 0, none⟩), u1, u2, u3, u4, u5, .slice (some ⟨g, 0, none⟩) m ca, u7, u8, .int .i64 (k : Nat), u10, u11, u12, u13, u14, u15, u16, u17, u18, u19, u20, u21, u22, u23, u24, u25, u26, u27, u28, u29, u30, u31, u32, u33, u34, u35, u36, u37, u38, u39, u40, u41, u42, u43, u44, u45, u46, u47, u48, u49, u50, u51, u52, u53, u54, u55, u56, u57, u58, u59, u60, u61, u62, u63, u64, u65, u66, u67, u68, u69, u70, u71, u72, u73, u74, u75, u76, u77, u78, u79, u80, u81, u82, u83, u84, u85, u86, u87, u88, u89, u90, u91, u92, u93, u94, u95, u96, u97, u98, u99, u100, u101, u102, u103, u104, u105, u106, u107, u108, u109, u110, u111, u112, u113, u114, u115, u116, u117, u118, u119, u120, u121], []⟩ w := by
  unfold regC
  conv => arg 2; whnf
  have HA := hide cA
  have hkz : (0 : Int) ≤ (k : Int) := by omega
  have hklz : (k : Int) < (m : Int) := by omega
  have hiz : (0 : Int) ≤ (i : Int) := by omega
  have hilz : (i : Int) < (n : Int) := by omega
  have HW0 := hide (drewB w)
  clear cA
  go_region_held3 (fun w' => w'.cell? ⟨b, 0, none⟩ = some (.slice (some ⟨be, offe, none⟩) n cv) ∧ w'.cell? ⟨g, k, none⟩ = some (.string z) ∧ w'.cell? ⟨be, offe + i * 3 + 2, none⟩ = some (.slice ra rn rc)) (go_keep) (first
    | (go_at_call 39; refine (HA.out _ HW0.out).mono ?_; rintro e w1 ⟨rfl, hb1⟩; have HW1 := hide (HW0.out.trans (hb1.mono HW0.out.size)); have g0 := cellB HW1.out c8; have g1 := cellB HW1.out ck; have g2 := cellB HW1.out e82; clear hb1))
  exact ⟨⟨_, _, _, _, _, _, _, _, _, _, _, _, _, _, _, rfl⟩, HW1.out⟩
end Go.Proofs.YticfcjmlphhpgaaGreatDoor
/-
  THE DOCUMENT's STORES: Closure.
-/
namespace Go.Proofs.YticfcjmlphhpgaaGreatDoor
open Go.RowKit

def boolN : Value → Nat
  | .bool true => 1
  | _ => 0
theorem any_lack {S : List Ent} {roots : List ByteArray} (h : ∀ k (hk : k < roots.length), (findS S roots[k]).isNone = false) : lackR S roots = false := by
  unfold lackR
  rw [List.any_eq_false]
  intro y hy
  obtain ⟨k, hk, rfl⟩ := List.getElem_of_mem hy
  rw [h k hk]; simp
theorem own_cellS {w : World} {B g cap : Nat} {ss : List ByteArray} (h : w.ownsRow B 9 1 (.slice (some ⟨g, 0, none⟩) ss.length cap) ss.length (ss.map Value.string)) (k : Nat) (hk : k < ss.length) : w.cell? ⟨g, k, none⟩ = some (.string ss[k]) := by
  rw [h.cellAt k (by omega)]
  simp [hk]
theorem findS_eq {S : List Ent} (hR : Rising S) {e : Ent} (he : e ∈ S) : findS S e.path = some e := by
  cases hf : findS S e.path with
  | none =>
    have := findS_mem ⟨e, he, rfl⟩
    rw [hf] at this; cases this
  | some e' =>
    obtain ⟨h1, h2⟩ := findS_some hf
    rw [HP.rise_uniq hR h1 he h2]
set_option maxRecDepth 20000 in
set_option maxHeartbeats 8000000 in
theorem rClosure_any (b : Nat) (S : List Ent) (vr : Value) (roots : List ByteArray) (w : World) (h : RSt w b S) (hC : ClosedS S) (hr : SliceS w vr roots) (hl : roots.length ≤ 1000000) :
    Calls Tryz.prog 28 #[.pointer (some ⟨b, 0, none⟩), vr] w fun e w' => ∃ v out, e = .returned (.tuple #[v, .int .i64 (if lackR S roots = true then 15 else 0)]) ∧ w'.ownsRow w.heap.size 9 1 v out.length (out.map Value.string) ∧ ClosR S roots out ∧ Below w.heap.size w w' := by
  obtain ⟨i9, hi9, h90, h91, h92⟩ := info_parts Tryz.info9
  have H := hide h
  have HC := hide hC
  obtain ⟨v, l, hS1, hS2, hS3, hS4⟩ := h.at_
  obtain ⟨av, cv, rfl, hcv, hcE⟩ := hS2
  have hfew := hC.few
  have HLEN := hide hS3.length
  have hl10 : l.length ≤ 10 := by have := HLEN.out; omega
  have HS2 : Hid (SliceE w (.slice av l.length cv) l) := hide ⟨av, cv, rfl, hcv, hcE⟩
  have HS3 := hide hS3
  have HS1 := hide hS1
  have HCE := hide hcE
  obtain ⟨ra, rc, rfl, _, hcr⟩ := hr
  have HCR := hide hcr
  obtain ⟨RES, hRES⟩ : ∃ R : Int × Prop, R.1 = (if lackR S roots = true then 15 else 0) := ⟨(_, True), rfl⟩
  obtain ⟨rz, hrz⟩ : ∃ rz : Int, rz = (if lackR S roots = true then 15 else 0) := ⟨_, rfl⟩
  rw [← hrz]
  clear hRES RES
  have HRZ := hide hrz
  have CB : Hid (∀ V : World, Below w.heap.size w V → V.cell? ⟨b, 0, none⟩ = some (.slice av l.length cv)) := hide fun V hV => cellB hV (by simp [World.cell?, HS1.out])
  clear h hC hS1 hS3 hS4 hcE hcr hrz
  go_enter Tryz.func28, Tryz.ntmps28
  go_wp2
  go_loopw [6, 21] (fun o iv w1 => ∃ (j : Nat) (a1 : Option Addr) (c1 : Nat), j ≤ roots.length ∧ iv = .int .i64 j ∧ o = .slice a1 j c1 ∧ Hid (Below w.heap.size w w1) ∧ Hid (w1.ownsRow w.heap.size 9 1 (.slice a1 j c1) j ((roots.take j).map Value.string)) ∧ Hid (∀ k (hk : k < roots.length), k < j → (findS S roots[k]).isNone = false)) (fun _ iv _ => roots.length - (intOf iv).toNat)
  case atStart => exact ⟨0, none, 0, by omega, rfl, rfl, hide (Below.refl _ _), hide (World.ownsRow_nil _ _ _ _), hide (fun k _ hk => by omega)⟩
  case round =>
    obtain ⟨j, a1, c1, hj, rfl, rfl, HB, HO, HALL⟩ := hrel
    have hsz := HB.out.size
    by_cases hlt : j < roots.length
    · have hltz : (j : Int) < roots.length := by omega
      obtain ⟨rb, roff, rfl, hrb, hcells⟩ := HCR.out (by omega)
      have c0 := (HB.out.cell (p := ⟨rb, roff + j, none⟩) hrb).trans (hcells j hlt)
      have cb := CB.out wr HB.out
      have cA := hide (at_any (.slice av l.length cv) l roots[j] wr (HS2.out.below HB.out) (by omega))
      have HM : Hid ((roots.take (j + 1)).map Value.string = (roots.take j).map Value.string ++ [.string roots[j]]) := map_snocS roots j hlt
      rcases HS3.out.find roots[j] with ⟨hf1, hf2⟩ | ⟨k, hk1, hk2, hf1, hf2⟩
      · have hlack : lackR S roots = true := List.any_eq_true.2 ⟨roots[j], List.getElem_mem _, by rw [hf1]; rfl⟩
        have hz := HRZ.out
        rw [hlack, if_pos rfl] at hz
        subst hz
        have HCL : Hid (ClosR S roots []) := hide (by unfold ClosR; rw [if_pos hlack])
        rw [hf2] at cA
        generalize roots[j] = z at c0 cA
        clear hcells hf1 hf2 hlack HM
        go_wp2_with fail
        refine cA.out.mono ?_
        rintro e w2 ⟨rfl, hb2⟩
        have HB2 := hide (HB.out.trans (hb2.mono hsz))
        clear hb2 cA c0 cb
        go_wp2
        go_ret2
        exact ⟨_, [], rfl, World.ownsRow_nil _ _ _ _, HCL.out, HB2.out⟩
      · have HALL' : Hid (∀ k (hk : k < roots.length), k < j + 1 → (findS S roots[k]).isNone = false) := hide fun i hi hij => by
          by_cases e' : i = j
          · subst e'; rw [hf2]; rfl
          · exact HALL.out i hi (by omega)
        rw [hf1] at cA
        have hkz : ¬ (k : Int) < 0 := by omega
        generalize roots[j] = z at c0 cA HM
        clear hcells hf1 hf2 HALL
        go_wp2_with fail
        refine cA.out.mono ?_
        rintro e w2 ⟨rfl, hb2⟩
        have HB2 := hide (HB.out.trans (hb2.mono hsz))
        have HO2 := hide (own_below HO.out hb2)
        have hsz2 := HB2.out.size
        clear hb2 cA c0 cb HO HB
        go_wp2_with (at_builtin; refine wpList_append_own _ rfl (.tmp 32) (.tmp 34) 26 rfl w.heap.size 9 i9 (.string ⟨#[]⟩) 1 16 Tryz.underlying26 hi9 h90 h91 h92 rfl (by decide) _ _ _ rfl (HO2.out.alloc _) ⟨w2.heap.size, 0, none⟩ 1 1 [.string z] rfl rfl (cell_one_at _ _ _ _ rfl) (fun x hx => by simp at hx; subst hx; rfl) (by unfold maxLen; omega) (by omega) (by simp; omega) ?_; intro v3 w3 hown3 hgrow3 hnil3; have HB3 := hide ((HB2.out.alloc hsz2 _).grown hgrow3 (by simp; omega) (fun k hk => (HO2.out.lt k hk).1)); obtain ⟨g3, cap3, rfl, hcap3⟩ := own_form hown3 (by omega); have HO3 := hide hown3; clear hown3 hgrow3 hnil3)
        go_roundw
        case rel => exact ⟨j + 1, some ⟨g3, 0, none⟩, cap3, by omega, by go_num, rfl, HB3, hide (by rw [HM.out]; exact HO3.out), HALL'⟩
        case measure => simp [intOf]; omega
    · obtain rfl : j = roots.length := by omega
      have hltz : ¬ ((roots.length : Nat) : Int) < roots.length := by omega
      have hlack : lackR S roots = false := any_lack (fun k hk => HALL.out k hk hk)
      have hz := HRZ.out
      rw [hlack, if_neg (by simp)] at hz
      subst hz
      have HCL : Hid (∀ out, HP.Final (HP.rchB S roots) S out → ClosR S roots out) := hide fun out ho => by unfold ClosR; rw [if_neg (by rw [hlack]; simp)]; exact ho
      have HGA : Hid (HP.Ga S roots roots 0) := hide (HP.Ga.start fun x hx => by
        obtain ⟨k, hk, rfl⟩ := List.getElem_of_mem hx
        exact findS_not (HALL.out k hk hk))
      have hO := HO.out
      rw [List.take_length] at hO
      have HO1 := hide hO
      clear hO HO HALL hlack
      go_wp2
      go_loopw [6, 9] (fun o kv w2 => ∃ (k : Nat) (all : List ByteArray) (a : Option Addr) (c : Nat), kv = .int .i64 k ∧ o = .slice a all.length c ∧ Hid (Below w.heap.size w w2) ∧ Hid (w2.ownsRow w.heap.size 9 1 (.slice a all.length c) all.length (all.map Value.string)) ∧ Hid (HP.Ga S roots all k)) (fun _ kv _ => roots.length + S.length - (intOf kv).toNat)
      case atStart => exact ⟨0, roots, _, _, rfl, rfl, HB, HO1, HGA⟩
      case round =>
        obtain ⟨k, all, a, c, rfl, rfl, HB2, HO2, HG2⟩ := hrel
        clear HB HO1 HGA
        have hGl := HG2.out.l
        have hGk := HG2.out.kl
        by_cases hlt : k < all.length
        · have hltz2 : (k : Int) < all.length := by omega
          obtain ⟨hRk, E0, hE0, hE0p⟩ := HG2.out.a all[k] (List.getElem_mem _)
          have hfS := findS_eq HC.out.rise hE0
          rw [hE0p] at hfS
          rcases HS3.out.find all[k] with ⟨hf1, _⟩ | ⟨i, hi1, hi2, hf1, hf2⟩
          · rw [hf1] at hfS; cases hfS
          · rw [hf2] at hfS
            injection hfS with hfS
            obtain ⟨_, _, hy2⟩ := HS3.out.get i hi1 hi2
            rw [hfS] at hy2
            have HREF := hide (fun r hr => HC.out.ref E0 hE0 r hr)
            have hrl := HC.out.refs E0 hE0
            have HE0 := hide hE0
            have HRK : Hid (HP.Rch S roots E0.path) := hide (by rw [hE0p]; exact hRk)
            have HKP : Hid (all[k]? = some E0.path) := hide (by rw [List.getElem?_eq_getElem hlt, hE0p])
            obtain ⟨be, offe, hav, hbe, hE⟩ := HCE.out (by omega)
            subst hav
            obtain ⟨_, _, e82⟩ := hE i hi1
            obtain ⟨g, ca, hga, _⟩ := own_form HO2.out (by omega)
            injection hga with hga _ hcc
            subst hga
            subst hcc
            have ck := own_cellS HO2.out k hlt
            have cb := CB.out wr HB2.out
            have cA : Hid (∀ V : World, Below wr.heap.size wr V → Calls Tryz.prog 39 #[.slice (some ⟨be, offe, none⟩) l.length cv, .string all[k]] V fun e w' => e = .returned (.int .i64 (i : Nat)) ∧ Below V.heap.size V w') := hide fun V hV => by
              have := at_any _ l all[k] V ((HS2.out.below HB2.out).below hV) (by omega)
              rwa [hf1] at this
            have HY2 := hide hy2
            have HE82 := hide (cellB HB2.out e82)
            clear hE e82 hy2 hf1 hf2 hfS hE0p hE0 hRk
            generalize all[k] = z at ck cA
            generalize l[i] = y at HY2 HE82
            obtain ⟨yp, ta, tn, tc, fa, fn, fc⟩ := y
            unfold REn.refs at HY2 HE82
            simp only at HY2 HE82
            obtain ⟨fa', fc', hfe, _, hfcells⟩ := HY2.out
            injection hfe with hfe1 hfe2 hfe3
            subst hfe1
            subst hfe2
            subst hfe3
            have HFC := hide hfcells
            clear hfcells
            go_wp2
            refine wp_mono (reg28_12 b g be offe l.length cv all.length c k i z fa E0.refs.length fc wr hlt hi1 cb ck HE82.out cA.out _ _ _ _ _ _ _ _ _ _ _ _ _ _ _ _ _ _ _ _ _ _ _ _ _ _ _ _ _ _ _ _ _ _ _ _ _ _ _ _ _ _ _ _ _ _ _ _ _ _ _ _ _ _ _ _ _ _ _ _ _ _ _ _ _ _ _ _ _ _ _ _ _ _ _ _ _ _ _ _ _ _ _ _ _ _ _ _ _ _ _ _ _ _ _ _ _ _ _ _ _ _ _ _ _ _ _ _ _ _ _ _ _ _ _ _ _ _ _) (reg_then ?_)
            rintro a' w3 ⟨⟨v43, v44, v45, v46, v47, v48, v49, v50, v51, v52, v53, v54, v55, v56, v57, rfl⟩, hb3⟩
            have HB3 := hide (HB2.out.trans (hb3.mono HB2.out.size))
            have HO3 := hide (own_below HO2.out hb3)
            clear hb3 cb ck cA HE82 HB2 HO2 HY2
            go_wp2
            go_loopw [6, 60] (fun o iv w4 => ∃ (j : Nat) (all : List ByteArray) (a : Option Addr) (c : Nat), j ≤ E0.refs.length ∧ iv = .int .i64 j ∧ o = .slice a all.length c ∧ Hid (Below w.heap.size w w4) ∧ Hid (w4.ownsRow w.heap.size 9 1 (.slice a all.length c) all.length (all.map Value.string)) ∧ Hid (HP.Ga S roots all k ∧ all[k]? = some E0.path ∧ ∀ i (hi : i < E0.refs.length), i < j → E0.refs[i] ∈ all)) (fun _ iv _ => E0.refs.length - (intOf iv).toNat)
            case atStart => exact ⟨0, all, _, _, by omega, rfl, rfl, HB3, HO3, hide ⟨HG2.out, HKP.out, fun i _ hi => by omega⟩⟩
            case round =>
              obtain ⟨j, all, a, c, hj, rfl, rfl, HB4, HO4, HG4⟩ := hrel
              clear HB3 HO3 HG2 HKP
              have hal := HG4.out.1.l
              have hsz4 := HB4.out.size
              by_cases hltj : j < E0.refs.length
              · have hltz3 : (j : Int) < E0.refs.length := by omega
                obtain ⟨fb, fo, hfa, hfb, hfc⟩ := HFC.out (by omega)
                subst hfa
                have c0 := (HB4.out.cell (p := ⟨fb, fo + j, none⟩) hfb).trans (hfc j hltj)
                have cI := hide (rin_any (.slice a all.length c) all E0.refs[j] wr (own_strs HO4.out) (by omega))
                cases hin : inL all E0.refs[j] with
                | true =>
                  have HG5 : Hid (HP.Ga S roots all k ∧ all[k]? = some E0.path ∧ ∀ i (hi : i < E0.refs.length), i < j + 1 → E0.refs[i] ∈ all) := hide ⟨HG4.out.1, HG4.out.2.1, fun i hi hij => by
                    by_cases e' : i = j
                    · subst e'; exact HP.inL_iff.1 hin
                    · exact HG4.out.2.2 i hi (by omega)⟩
                  rw [hin] at cI
                  generalize E0.refs[j] = r at c0 cI
                  clear hfc hin HG4
                  go_wp2_with fail
                  refine cI.out.mono ?_
                  rintro e w5 ⟨rfl, rfl⟩
                  go_wp2
                  go_roundw
                  case rel => exact ⟨j + 1, all, a, c, by omega, by go_num, rfl, HB4, HO4, HG5⟩
                  case measure => simp [intOf]; omega
                | false =>
                  have hrm := List.getElem_mem hltj
                  have HG5 : Hid (HP.Ga S roots (all ++ [E0.refs[j]]) k ∧ (all ++ [E0.refs[j]])[k]? = some E0.path ∧ ∀ i (hi : i < E0.refs.length), i < j + 1 → E0.refs[i] ∈ all ++ [E0.refs[j]]) := hide ⟨HG4.out.1.app (.ref HRK.out HE0.out hrm) (HREF.out _ hrm) hin, by
                    obtain ⟨hkl, _⟩ := List.getElem?_eq_some_iff.1 HG4.out.2.1
                    rw [List.getElem?_append_left hkl]; exact HG4.out.2.1, fun i hi hij => by
                    by_cases e' : i = j
                    · subst e'; exact List.mem_append_right _ (List.mem_singleton.2 rfl)
                    · exact List.mem_append_left _ (HG4.out.2.2 i hi (by omega))⟩
                  rw [hin] at cI
                  have HM : Hid (((all ++ [E0.refs[j]]).map Value.string) = all.map Value.string ++ [.string E0.refs[j]] ∧ (all ++ [E0.refs[j]]).length = all.length + 1) := hide ⟨by rw [List.map_append]; rfl, by rw [List.length_append]; rfl⟩
                  generalize E0.refs[j] = r at c0 cI HG5 HM
                  clear hfc hin HG4 hrm
                  go_wp2_with fail
                  refine cI.out.mono ?_
                  rintro e w5 ⟨rfl, rfl⟩
                  clear cI c0
                  go_wp2_with (at_builtin; refine wpList_append_own _ rfl (.tmp 68) (.tmp 70) 26 rfl w.heap.size 9 i9 (.string ⟨#[]⟩) 1 16 Tryz.underlying26 hi9 h90 h91 h92 rfl (by decide) _ _ _ rfl (HO4.out.alloc _) ⟨w5.heap.size, 0, none⟩ 1 1 [.string r] rfl rfl (cell_one_at _ _ _ _ rfl) (fun x hx => by simp at hx; subst hx; rfl) (by unfold maxLen; omega) (by omega) (by simp; omega) ?_; intro v6 w6 hown6 hgrow6 hnil6; have HB6 := hide ((HB4.out.alloc hsz4 _).grown hgrow6 (by simp; omega) (fun k hk => (HO4.out.lt k hk).1)); obtain ⟨g6, cap6, rfl, _⟩ := own_form hown6 (by omega); have HO6 := hide hown6; clear hown6 hgrow6 hnil6)
                  go_roundw
                  case rel => exact ⟨j + 1, all ++ [r], some ⟨g6, 0, none⟩, cap6, by omega, by go_num, by rw [HM.out.2], HB6, hide (by rw [HM.out.1, HM.out.2]; exact HO6.out), HG5⟩
                  case measure => simp [intOf]; omega
              · obtain rfl : j = E0.refs.length := by omega
                have hltz3 : ¬ ((E0.refs.length : Nat) : Int) < E0.refs.length := by omega
                have HG5 : Hid (HP.Ga S roots all (k + 1)) := hide (HG4.out.1.next HC.out.rise HE0.out HG4.out.2.1 fun r hr => by
                  obtain ⟨i, hi, rfl⟩ := List.getElem_of_mem hr
                  exact HG4.out.2.2 i hi hi)
                have hkb := HG5.out.kl
                clear HG4
                go_wp2
                go_roundw
                case rel => exact ⟨k + 1, all, a, c, by go_num, rfl, HB4, HO4, HG5⟩
                case measure => simp [intOf]; omega
        · obtain rfl : k = all.length := by omega
          have hltz2 : ¬ ((all.length : Nat) : Int) < all.length := by omega
          have HP1 : Hid (∀ p, inL all p = HP.rchB S roots p) := hide HG2.out.done
          have HAS := hide (own_strs HO2.out)
          have hsz0 := HB2.out.size
          have hall := HG2.out.l
          clear HO2 HG2
          obtain ⟨w0, hw0⟩ : ∃ w0, w0 = wr := ⟨_, rfl⟩
          subst hw0
          go_wp2
          go_loopw [12, 13] (fun o mv w4 => ∃ (out : List ByteArray) (a1 : Option Addr) (c1 : Nat) (m : Bool), o = .slice a1 out.length c1 ∧ mv = .bool m ∧ Hid (Below w0.heap.size w0 w4) ∧ Hid (w4.ownsRow w0.heap.size 9 1 (.slice a1 out.length c1) out.length (out.map Value.string)) ∧ Hid (HP.OrdSt (inL all) S out ∧ (m = false → HP.nextF (inL all) S out = none))) (fun o mv _ => 2 * (S.length - lenOf o) + boolN mv)
          case atStart => exact ⟨[], none, 0, true, rfl, rfl, hide (Below.refl _ _), hide (World.ownsRow_nil _ _ _ _), hide ⟨.nil, fun h => by cases h⟩⟩
          case round =>
            obtain ⟨out, a1, c1, m, rfl, rfl, HB4, HO4, HS4⟩ := hrel
            have hol := HS4.out.1.len
            cases m with
            | false =>
              have HB5 := hide (HB2.out.trans (HB4.out.mono hsz0))
              have HO5 := hide (own_base HO4.out hsz0)
              have HF : Hid (HP.Final (HP.rchB S roots) S out) := hide (HP.Final.congr (fun e _ => HP1.out e.path) ⟨HS4.out.1, HS4.out.2 rfl⟩)
              go_wp2
              go_ret2
              exact ⟨_, rfl, out, HO5.out, HCL.out _ HF.out, HB5.out⟩
            | true =>
              have cb := CB.out wr (HB2.out.trans (HB4.out.mono hsz0))
              go_wp2
              go_loopw [12, 13, 79] (fun o mv iv w5 => ∃ i : Nat, i ≤ l.length ∧ iv = .int .i64 i ∧ o = .slice a1 out.length c1 ∧ mv = .bool false ∧ Hid (Below w0.heap.size w0 w5) ∧ Hid (w5.ownsRow w0.heap.size 9 1 (.slice a1 out.length c1) out.length (out.map Value.string)) ∧ Hid (∀ j (hj : j < S.length), j < i → HP.condB (inL all) out S[j] = false)) (fun _ _ iv _ => l.length - (intOf iv).toNat)
              case atStart => exact ⟨0, by omega, rfl, rfl, rfl, HB4, HO4, hide (fun j _ hj => by omega)⟩
              case round =>
                obtain ⟨i, hi, rfl, rfl, rfl, HB5, HO5, HALL⟩ := hrel
                have HOS := hide HS4.out.1
                clear HB4 HO4 HS4 cb
                by_cases hlti : i < l.length
                · have hltiz : (i : Int) < l.length := by omega
                  have hiS : i < S.length := by have := HLEN.out; omega
                  have HBW := hide (HB2.out.trans (HB5.out.mono hsz0))
                  obtain ⟨hyp, _, hy2⟩ := HS3.out.get i hlti hiS
                  obtain ⟨be, offe, hav, hbe, hE⟩ := HCE.out (by omega)
                  subst hav
                  obtain ⟨e0, e1, e2⟩ := hE i hlti
                  have d0 := cellB HBW.out e0
                  have d1 := cellB HBW.out e1
                  have d2 := cellB HBW.out e2
                  have hrl := HC.out.refs S[i] (List.getElem_mem _)
                  have hes : Hid (∀ b, HP.condB (inL all) out S[i] = b → HP.condB (inL all) out S[i] = b) := hide fun _ h => h
                  have HCO : Hid (HP.condB (inL all) out S[i] = (inL all S[i].path && !inL out S[i].path && HP.readyB out S[i])) := hide rfl
                  have HNX : Hid (HP.condB (inL all) out S[i] = true → HP.nextF (inL all) S out = some S[i]) := hide fun h => HP.next_at i hiS h HALL.out
                  have HST : Hid (HP.condB (inL all) out S[i] = false → ∀ j (hj : j < S.length), j < i + 1 → HP.condB (inL all) out S[j] = false) := hide fun h j hj hji => by
                    by_cases e' : j = i
                    · subst e'; exact h
                    · exact HALL.out j hj (by omega)
                  have HY2 := hide hy2
                  clear hE e0 e1 e2 hy2 HALL hes
                  unfold REn.tree at d1
                  unfold REn.refs at d2
                  unfold REn.refs at HY2
                  rw [hyp] at d0
                  generalize S[i] = E at *
                  generalize l[i] = y at *
                  obtain ⟨yp, ta, tn, tc, fa, fn, fc⟩ := y
                  simp only at d1 d2 HY2 hyp
                  clear hyp
                  obtain ⟨fa', fc', hfe, _, hfcells⟩ := HY2.out
                  injection hfe with hfe1 hfe2 hfe3
                  subst hfe1
                  subst hfe2
                  subst hfe3
                  have HFC := hide hfcells
                  have HB6 := hide (HB5.out.alloc HB5.out.size (.cells #[.string E.path, .slice ta tn tc, .slice fa E.refs.length fc] 76))
                  have HO6 := hide (HO5.out.alloc (.cells #[.string E.path, .slice ta tn tc, .slice fa E.refs.length fc] 76))
                  have HI1 : Hid (Calls Tryz.prog 47 #[.slice a all.length c, .string E.path] (wr.alloc (.cells #[.string E.path, .slice ta tn tc, .slice fa E.refs.length fc] 76)) fun e w' => e = .returned (.bool (inL all E.path)) ∧ w' = wr.alloc (.cells #[.string E.path, .slice ta tn tc, .slice fa E.refs.length fc] 76)) := hide (rin_any _ all E.path _ (HAS.out.below HB6.out) (by omega))
                  have HI2 : Hid (∀ x, Calls Tryz.prog 47 #[.slice a1 out.length c1, .string x] (wr.alloc (.cells #[.string E.path, .slice ta tn tc, .slice fa E.refs.length fc] 76)) fun e w' => e = .returned (.bool (inL out x)) ∧ w' = wr.alloc (.cells #[.string E.path, .slice ta tn tc, .slice fa E.refs.length fc] 76)) := hide fun x => rin_any _ out x _ (own_strs HO6.out) (by omega)
                  clear hfcells HY2
                  cases hA : inL all E.path with
                  | false =>
                    have HST' := hide (HST.out (by rw [HCO.out, hA]; rfl))
                    rw [hA] at HI1
                    clear HNX HST HCO
                    go_wp2_with fail
                    refine HI1.out.mono ?_
                    rintro e w7 ⟨rfl, rfl⟩
                    go_wp2
                    go_roundw
                    case rel => exact ⟨i + 1, by omega, by go_num, rfl, rfl, HB6, HO6, HST'⟩
                    case measure => simp [intOf]; omega
                  | true =>
                    rw [hA] at HI1
                    have HI3 := hide (HI2.out E.path)
                    cases hB : inL out E.path with
                    | true =>
                      have HST' := hide (HST.out (by rw [HCO.out, hA, hB]; rfl))
                      rw [hB] at HI3
                      clear HNX HST HCO
                      go_wp2_with fail
                      refine HI1.out.mono ?_
                      rintro e w7 ⟨rfl, rfl⟩
                      go_wp2_with fail
                      refine HI3.out.mono ?_
                      rintro e w8 ⟨rfl, rfl⟩
                      go_wp2
                      go_roundw
                      case rel => exact ⟨i + 1, by omega, by go_num, rfl, rfl, HB6, HO6, HST'⟩
                      case measure => simp [intOf]; omega
                    | false =>
                      rw [hB] at HI3
                      have HCO' : Hid (HP.condB (inL all) out E = HP.readyUp out E E.refs.length) := hide (by rw [HCO.out, hA, hB, HP.readyUp_all]; rfl)
                      clear HCO hA hB
                      go_wp2_with fail
                      refine HI1.out.mono ?_
                      rintro e w7 ⟨rfl, rfl⟩
                      go_wp2_with fail
                      refine HI3.out.mono ?_
                      rintro e w8 ⟨rfl, rfl⟩
                      clear HI1 HI3 d0 d1 d2
                      go_wp2
                      have k6 := block_new wr (.cells #[.string E.path, .slice ta tn tc, .slice fa E.refs.length fc] 76)
                      have p60 : (wr.alloc (.cells #[.string E.path, .slice ta tn tc, .slice fa E.refs.length fc] 76)).cell? ⟨wr.heap.size, 0, none⟩ = some (.string E.path) := by simp only [World.cell?, k6]; rfl
                      have HBW6 := hide (HB2.out.trans (HB6.out.mono hsz0))
                      clear k6
                      generalize wr.alloc (.cells #[.string E.path, .slice ta tn tc, .slice fa E.refs.length fc] 76) = W6 at HB6 HO6 HI2 p60 HBW6 ⊢
                      generalize wr.heap.size = q6 at p60 ⊢
                      go_loopw [16, 97] (fun okv jv w7 => ∃ j : Nat, j ≤ E.refs.length ∧ jv = .int .i64 j ∧ okv = .bool (HP.readyUp out E j) ∧ Hid (w7 = W6)) (fun _ jv _ => E.refs.length - (intOf jv).toNat)
                      case atStart => exact ⟨0, by omega, rfl, by rw [HP.readyUp_zero], hide rfl⟩
                      case round =>
                        obtain ⟨j, hj, rfl, rfl, HW7⟩ := hrel
                        have hw7 := HW7.out
                        subst hw7
                        clear HW7
                        by_cases hltj : j < E.refs.length
                        · have hltjz : (j : Int) < E.refs.length := by omega
                          obtain ⟨fb, fo, hfa, hfb, hfc⟩ := HFC.out (by omega)
                          subst hfa
                          have c0 := (HBW6.out.cell (p := ⟨fb, fo + j, none⟩) hfb).trans (hfc j hltj)
                          have hstep := HP.readyUp_step out E j hltj
                          have HI4 := hide (HI2.out E.refs[j])
                          cases hru : HP.readyUp out E j with
                          | false =>
                            rw [hru, Bool.false_and] at hstep
                            have HRU := hide hstep
                            generalize E.refs[j] = r at c0 HI4
                            clear hfc hstep hru HI4
                            go_wp2
                            go_roundw
                            case rel => exact ⟨j + 1, by omega, by go_num, by rw [HRU.out], by first | exact hide rfl | exact hide trivial⟩
                            case measure => simp [intOf]; omega
                          | true =>
                            rw [hru, Bool.true_and] at hstep
                            by_cases er : E.refs[j] = E.path
                            · have hbq : (E.refs[j].toList == E.path.toList) = true := by rw [er]; simp
                              rw [decide_eq_true er, Bool.true_or] at hstep
                              have HRU := hide hstep
                              generalize E.refs[j] = r at c0 hbq
                              clear hfc hstep hru HI4 er
                              go_wp2
                              go_roundw
                              case rel => exact ⟨j + 1, by omega, by go_num, by rw [HRU.out], by first | exact hide rfl | exact hide trivial⟩
                              case measure => simp [intOf]; omega
                            · have hbq := eqB_false er
                              rw [decide_eq_false er, Bool.false_or] at hstep
                              have HRU := hide hstep
                              generalize E.refs[j] = r at c0 hbq HI4 HRU
                              clear hfc hstep hru er
                              go_wp2_with fail
                              refine HI4.out.mono ?_
                              rintro e w8 ⟨rfl, rfl⟩
                              go_wp2
                              go_roundw
                              case rel => exact ⟨j + 1, by omega, by go_num, by rw [HRU.out], by first | exact hide rfl | exact hide trivial⟩
                              case measure => simp [intOf]; omega
                        · obtain rfl : j = E.refs.length := by omega
                          have hltjz : ¬ ((E.refs.length : Nat) : Int) < E.refs.length := by omega
                          cases hru : HP.readyUp out E E.refs.length with
                          | false =>
                            have HST' := hide (HST.out (by rw [HCO'.out, hru]))
                            clear hru HST HNX HCO' HI2
                            go_wp2
                            go_roundw
                            case rel => exact ⟨i + 1, by omega, by go_num, rfl, rfl, HB6, HO6, HST'⟩
                            case measure => simp [intOf]; omega
                          | true =>
                            have HOS' : Hid (HP.OrdSt (inL all) S (out ++ [E.path])) := hide (.snoc HOS.out (HNX.out (by rw [HCO'.out, hru])))
                            have hol' := HOS'.out.len
                            have hsz6 := HB6.out.size
                            rw [List.length_append, List.length_singleton] at hol'
                            clear hru HST HNX HCO' HI2
                            go_wp2_with (at_builtin; refine wpList_append_own _ rfl (.tmp 115) (.tmp 118) 26 rfl w0.heap.size 9 i9 (.string ⟨#[]⟩) 1 16 Tryz.underlying26 hi9 h90 h91 h92 rfl (by decide) _ _ _ rfl (HO6.out.alloc _) ⟨wr.heap.size, 0, none⟩ 1 1 [.string E.path] rfl rfl (cell_one_at _ _ _ _ rfl) (fun x hx => by simp at hx; subst hx; rfl) (by unfold maxLen; omega) (by omega) (by simp; omega) ?_; intro v9 w9 hown9 hgrow9 hnil9; have HB9 := hide ((HB6.out.alloc hsz6 _).grown hgrow9 (by simp; omega) (fun k hk => (HO6.out.lt k hk).1)); obtain ⟨g9, cap9, rfl, _⟩ := own_form hown9 (by omega); have HO9 := hide hown9; clear hown9 hgrow9 hnil9)
                            go_roundw
                            case rel => exact ⟨out ++ [E.path], some ⟨g9, 0, none⟩, cap9, true, by simp, rfl, HB9, hide (by rw [List.length_append, List.length_singleton, List.map_append, List.map_singleton]; exact HO9.out), hide ⟨HOS'.out, fun h => by cases h⟩⟩
                            case measure => simp [lenOf, boolN]; omega
                · obtain rfl : i = l.length := by omega
                  have hltiz : ¬ ((l.length : Nat) : Int) < l.length := by omega
                  have HN : Hid (HP.OrdSt (inL all) S out ∧ (false = false → HP.nextF (inL all) S out = none)) := hide ⟨HOS.out, fun _ => HP.next_no fun j hj => HALL.out j hj (by have := HLEN.out; omega)⟩
                  clear HALL
                  go_wp2
                  go_roundw
                  case rel => exact ⟨out, a1, c1, false, rfl, rfl, HB5, HO5, HN⟩
                  case measure => simp [lenOf, boolN]
end Go.Proofs.YticfcjmlphhpgaaGreatDoor
