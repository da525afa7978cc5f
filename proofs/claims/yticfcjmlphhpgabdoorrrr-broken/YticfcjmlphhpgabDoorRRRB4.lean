/-
  WALK of narkeep.Broken.
-/
import Derived.Test.YticfcjmlphhpgabDoorRRRB3
namespace Go.Proofs.YticfcjmlphhpgabDoorRRR
open Go.RowKit

theorem run_take : ∀ (A B : List Nd) (i : Nat) (ds ds' : Ds), runF i ds (A ++ B) = some ds' → ∃ d, runF i ds A = some d
  | [], _, _, ds, _, _ => ⟨ds, rfl⟩
  | a :: A, B, i, ds, ds', h => by
    rw [List.cons_append] at h
    simp only [runF] at h ⊢
    cases hs : stepW i ds a with
    | none => rw [hs] at h; cases h
    | some d => rw [hs] at h; exact run_take A B (i + 1) d ds' h
theorem Tree.sm {l : List Nd} (h : Tree l) : Small l := ⟨by have := h.len; omega, fun n hn => by have := h.small n hn; omega⟩
theorem pack_ok {l : List Nd} (h : Tree l) : packRes l = #[.string ⟨(packBytes l).toArray⟩, .int .i64 0, .int .i64 0] := by
  obtain ⟨ds, hr⟩ := h.run
  unfold packRes; rw [firstW_run l ds h.ne hr]
theorem pack_ne {l : List Nd} (h : Tree l) : (!(⟨(packBytes l).toArray⟩ : ByteArray).toList.isEmpty) = true := by
  rw [ByteArray.toList_eq]
  cases l with
  | nil => exact absurd rfl h.ne
  | cons n r =>
    have : (bytesOf [wNar]).length = 16 := by decide
    have hl : 0 < (packBytes (n :: r)).length := by
      show 0 < (bytesOf [wNar] ++ (nodeF (entsF r.length) n r).1).length
      rw [List.length_append]; omega
    cases hh : packBytes (n :: r) with
    | nil => rw [hh] at hl; simp at hl
    | cons a b => rfl
theorem set_split (l : List Nd) (k : Nat) (x : Nd) (h : k < l.length) : l.set k x = l.take k ++ x :: l.drop (k + 1) := by
  rw [List.set_eq_take_append_cons_drop, if_pos h]
theorem nm_take {l : List Nd} (h : Nm l) (k : Nat) (hk : k < l.length) : Nm (l.take k ++ [l[k]]) := by
  rw [← List.take_succ_eq_append_getElem hk]
  intro n hn
  cases l with
  | nil => simp at hk
  | cons a r =>
    rw [List.take_succ_cons, List.tail_cons] at hn
    exact h n (by simpa using List.mem_of_mem_take hn)
theorem bad_chg {l : List Nd} (h : Tree l) (k : Nat) (hk : k < l.length) (how : Nat) (hh : how < 6) : packRes (l.set k (chg l[k] ⟨#[]⟩ how)) = #[.string ⟨#[]⟩, .int .i64 1, .int .i64 (k : Int)] := by
  obtain ⟨ds, hr⟩ := h.run
  have hr' : runF 0 [] (l.take k ++ l.drop k) = some ds := by rw [List.take_append_drop]; exact hr
  obtain ⟨d, hd⟩ := run_take _ _ _ _ _ hr'
  have hlen : (l.take k).length = k := by rw [List.length_take]; omega
  have := firstW_at (l.take k) (l.drop (k + 1)) (chg l[k] ⟨#[]⟩ how) d hd (chg_wrong _ _ d hd (nm_take h.nm k hk) how hh)
  unfold packRes
  rw [set_split _ _ _ hk, this, hlen]
theorem bad_same {l : List Nd} (h : Tree l) (k : Nat) (hk : k + 1 < l.length) : packRes (l.set (k + 1) ⟨l[k].path, l[k + 1].kind, l[k + 1].data⟩) = #[.string ⟨#[]⟩, .int .i64 1, .int .i64 ((k : Int) + 1)] := by
  obtain ⟨ds, hr⟩ := h.run
  have hr' : runF 0 [] (l.take (k + 1) ++ l.drop (k + 1)) = some ds := by rw [List.take_append_drop]; exact hr
  obtain ⟨d, hd⟩ := run_take _ _ _ _ _ hr'
  have hlen : (l.take k).length = k := by rw [List.length_take]; omega
  rw [List.take_succ_eq_append_getElem (by omega)] at hd
  have hs := chg_same (l.take k) l[k] l[k + 1] d hd
  rw [hlen] at hs
  have h2 := firstW_at (l.take k ++ [l[k]]) (l.drop (k + 1 + 1)) ⟨l[k].path, l[k + 1].kind, l[k + 1].data⟩ d hd (by rw [List.length_append, hlen]; exact hs)
  unfold packRes
  rw [set_split _ _ _ hk, List.take_succ_eq_append_getElem (by omega), h2, List.length_append, hlen]
  simp
theorem small_set {l : List Nd} (h : Small l) (k : Nat) (x : Nd) (hx : x.path.size ≤ 1000000 ∧ x.data.size ≤ 1000000) : Small (l.set k x) := by
  refine ⟨by rw [List.length_set]; exact h.1, fun n hn => ?_⟩
  rcases List.mem_or_eq_of_mem_set hn with hn | rfl
  · exact h.2 n hn
  · exact hx
/-- A node is stored. -/
theorem own_put {w : World} {B g cap : Nat} {l : List Nd} (h : w.ownsRow B 30 3 (.slice (some ⟨g, 0, none⟩) l.length cap) l.length (flat3 l)) (k : Nat) (hk : k < l.length) (x : Nd) :
    (((w.setCell ⟨g, k * 3, none⟩ (.string x.path)).setCell ⟨g, k * 3 + 1, none⟩ (.int .i64 x.kind)).setCell ⟨g, k * 3 + 2, none⟩ (.string x.data)).ownsRow B 30 3 (.slice (some ⟨g, 0, none⟩) l.length cap) (l.set k x).length (flat3 (l.set k x)) := by
  obtain ⟨h1, _⟩ := h.stored (k * 3) (.string x.path)
  obtain ⟨h2, _⟩ := h1.stored (k * 3 + 1) (.int .i64 x.kind)
  obtain ⟨h3, _⟩ := h2.stored (k * 3 + 2) (.string x.data)
  rw [flat3_set l k x hk, List.length_set]
  exact h3
theorem below_three {B : Nat} {w w' : World} (h : Below B w w') (g a b c : Nat) (x y z : Value) (hg : B ≤ g) : Below B w (((w'.setCell ⟨g, a, none⟩ x).setCell ⟨g, b, none⟩ y).setCell ⟨g, c, none⟩ z) :=
  Go.RowKit.Below.setCell (Go.RowKit.Below.setCell (Go.RowKit.Below.setCell h hg x) hg y) hg z

/-- The cells that a store of a node meets. -/
theorem put_facts {w : World} {B g cap : Nat} {l : List Nd} (h : w.ownsRow B 30 3 (.slice (some ⟨g, 0, none⟩) l.length cap) l.length (flat3 l)) (k : Nat) (hk : k < l.length) (o : Obj) (p : ByteArray) (z : Int) (x : Nd) (hx : l[k] = x) :
    ((w.alloc o).cell? ⟨g, k * 3, none⟩ = some (.string x.path) ∧ (w.alloc o).frozen? ⟨g, k * 3, none⟩ = false ∧
    ((w.setCell ⟨g, k * 3, none⟩ (.string p)).alloc o).cell? ⟨g, k * 3 + 1, none⟩ = some (.int .i64 x.kind) ∧ ((w.setCell ⟨g, k * 3, none⟩ (.string p)).alloc o).frozen? ⟨g, k * 3 + 1, none⟩ = false ∧
    (((w.setCell ⟨g, k * 3, none⟩ (.string p)).setCell ⟨g, k * 3 + 1, none⟩ (.int .i64 z)).alloc o).cell? ⟨g, k * 3 + 2, none⟩ = some (.string x.data) ∧ (((w.setCell ⟨g, k * 3, none⟩ (.string p)).setCell ⟨g, k * 3 + 1, none⟩ (.int .i64 z)).alloc o).frozen? ⟨g, k * 3 + 2, none⟩ = false) ∧
    (w.frozen? ⟨g, k * 3, none⟩ = false ∧ (w.setCell ⟨g, k * 3, none⟩ (.string p)).cell? ⟨g, k * 3 + 1, none⟩ = some (.int .i64 x.kind) ∧ (w.setCell ⟨g, k * 3, none⟩ (.string p)).frozen? ⟨g, k * 3 + 1, none⟩ = false ∧
    ((w.setCell ⟨g, k * 3, none⟩ (.string p)).setCell ⟨g, k * 3 + 1, none⟩ (.int .i64 z)).cell? ⟨g, k * 3 + 2, none⟩ = some (.string x.data) ∧ ((w.setCell ⟨g, k * 3, none⟩ (.string p)).setCell ⟨g, k * 3 + 1, none⟩ (.int .i64 z)).frozen? ⟨g, k * 3 + 2, none⟩ = false) := by
  obtain ⟨f0, f1, f2⟩ := flat3_get l k hk
  rw [hx] at f0 f1 f2
  have h0 := h.alloc o
  obtain ⟨h1, _⟩ := h.stored (k * 3) (.string p)
  obtain ⟨h2, _⟩ := h1.stored (k * 3 + 1) (.int .i64 z)
  have e1 : ((flat3 l).set (k * 3) (.string p))[k * 3 + 1]? = some (.int .i64 x.kind) := by rw [List.getElem?_set_ne (by omega)]; exact f1
  have e2 : (((flat3 l).set (k * 3) (.string p)).set (k * 3 + 1) (.int .i64 z))[k * 3 + 2]? = some (.string x.data) := by rw [List.getElem?_set_ne (by omega), List.getElem?_set_ne (by omega)]; exact f2
  exact ⟨⟨(h0.cellAt _ (by omega)).trans f0, h0.frozenAt _, ((h1.alloc o).cellAt _ (by omega)).trans e1, (h1.alloc o).frozenAt _, ((h2.alloc o).cellAt _ (by omega)).trans e2, (h2.alloc o).frozenAt _⟩,
    h.frozenAt _, (h1.cellAt _ (by omega)).trans e1, h1.frozenAt _, (h2.cellAt _ (by omega)).trans e2, h2.frozenAt _⟩
/-- The world behind that store. -/
def putW (w : World) (g k : Nat) (x : Nd) : World := ((w.setCell ⟨g, k * 3, none⟩ (.string x.path)).setCell ⟨g, k * 3 + 1, none⟩ (.int .i64 x.kind)).setCell ⟨g, k * 3 + 2, none⟩ (.string x.data)
theorem pack_again {w0 w : World} {g cap : Nat} {l : List Nd} (h : w.ownsRow w0.heap.size 30 3 (.slice (some ⟨g, 0, none⟩) l.length cap) l.length (flat3 l)) (k : Nat) (hk : k < l.length) (o : Obj) (x : Nd) (hsm : Small l) (hx : x.path.size ≤ 1000000 ∧ x.data.size ≤ 1000000) (hT : Lib.Utf8Tabs 0 1 w0) (hb : Below w0.heap.size w0 w) :
    Calls Tryd.prog 5 #[.slice (some ⟨g, 0, none⟩) l.length cap] ((putW w g k x).alloc o) fun e w' => e = .returned (.tuple (packRes (l.set k x))) ∧ Below w0.heap.size w0 w' := by
  have h1 := (own_put h k hk x).alloc o
  have hg : w0.heap.size ≤ g := (h.lt g rfl).1
  have hb1 : Below w0.heap.size w0 ((putW w g k x).alloc o) := (below_three hb g _ _ _ _ _ _ hg).alloc (below_three hb g _ _ _ _ _ _ hg).size o
  have h2 : ((putW w g k x).alloc o).ownsRow w0.heap.size 30 3 (.slice (some ⟨g, 0, none⟩) l.length cap) (l.set k x).length (flat3 (l.set k x)) := h1
  refine (narPack_any _ (l.set k x) _ (Utf8Tabs_below hT hb1) (own_nodes h2).1 (small_set hsm k x hx)).mono ?_
  rintro e w' ⟨rfl, hb2⟩
  exact ⟨rfl, hb1.trans (hb2.mono hb1.size)⟩

set_option maxRecDepth 20000 in
set_option maxHeartbeats 2000000 in
theorem Broken_any (s : ByteArray) (k how : Int) (w : World) (hT : Lib.Utf8Tabs 0 1 w) (hk : -9223372036854775808 ≤ k) (hk2 : k ≤ 9223372036854775807) (hh : -9223372036854775808 ≤ how) (hh2 : how ≤ 9223372036854775807) (hs0 : s.size ≤ 9223372036854775807) :
    Calls Tryd.prog 3 #[.string s, .int .i64 k, .int .i64 how] w fun e w' => e = .returned (.bool true) ∧ Below w.heap.size w w' := by
  by_cases hs : (16384 : Int) < s.size
  · clear hs0
    go_enter Tryd.func3, Tryd.ntmps3
    go_wp2
    go_ret
    exact ⟨rfl, Below.refl _ _⟩
  · have cG := hide (grown_any s w (by omega))
    have HT := hide hT
    clear hT
    go_enter Tryd.func3, Tryd.ntmps3
    go_wp2_with fail
    refine cG.out.mono ?_
    rintro e w1 ⟨v, l, rfl, hown, hTr, hb1⟩
    clear cG
    have hlp : 0 < l.length := List.length_pos_iff.2 hTr.ne
    have hl30 := hTr.len
    have cP := hide (narPack_any v l w1 (Utf8Tabs_below HT.out hb1) (own_nodes hown).1 hTr.sm)
    rw [pack_ok hTr] at cP
    have hne := pack_ne hTr
    generalize (⟨(packBytes l).toArray⟩ : ByteArray) = bb at cP hne
    obtain ⟨g, cap, rfl, hcap⟩ := own_form hown hlp
    have HTr := hide hTr
    have HOwn := hide hown
    clear hTr hown
    go_wp2_with fail
    refine cP.out.mono ?_
    rintro e w2 ⟨rfl, hb2⟩
    clear cP
    have HOwn2 := hide (own_below HOwn.out hb2)
    clear HOwn
    obtain ⟨kk, hkk, hkl⟩ := pickZ_lt k l.length hlp
    have cK := hide (pick_any k l.length w2 hk hk2 (by omega) (by omega))
    rw [hkk] at cK
    go_wp2_with fail
    refine cK.out.mono ?_
    rintro e w3 ⟨rfl, rfl⟩
    clear cK hkk
    obtain ⟨x, hx⟩ : ∃ x, l[kk] = x := ⟨_, rfl⟩
    obtain ⟨f0, f1, f2⟩ := flat3_get l kk hkl
    rw [hx] at f0 f1 f2
    have c0 : w3.cell? ⟨g, kk * 3, none⟩ = some (.string x.path) := (HOwn2.out.cellAt (kk * 3) (by omega)).trans f0
    have c1 : w3.cell? ⟨g, kk * 3 + 1, none⟩ = some (.int .i64 x.kind) := (HOwn2.out.cellAt (kk * 3 + 1) (by omega)).trans f1
    have c2 : w3.cell? ⟨g, kk * 3 + 2, none⟩ = some (.string x.data) := (HOwn2.out.cellAt (kk * 3 + 2) (by omega)).trans f2
    clear f0 f1 f2
    obtain ⟨hp1, hp2⟩ : x.path.size ≤ 20000 ∧ x.data.size ≤ 20000 := HTr.out.small x (by rw [← hx]; exact List.getElem_mem _)
    have HX := hide hx
    clear hx
    have hgl := (HOwn2.out.lt g rfl).2
    obtain ⟨hw, hhw, hh7⟩ := pickZ_lt how 7 (by omega)
    have cH := fun W => pick_any how 7 W hh hh2 (by omega) (by omega)
    rw [show ((7 : Nat) : Int) = 7 from rfl] at hhw
    rw [hhw] at cH
    have CH := hide cH
    clear cH hhw
    go_wp2_with fail
    refine (CH.out _).mono ?_
    rintro e w4 ⟨rfl, rfl⟩
    clear CH
    have hbw : Below w.heap.size w w3 := hb1.trans (hb2.mono hb1.size)
    clear hb1 hb2
    obtain rfl | rfl | rfl | rfl | rfl | rfl | rfl : hw = 0 ∨ hw = 1 ∨ hw = 2 ∨ hw = 3 ∨ hw = 4 ∨ hw = 5 ∨ hw = 6 := by omega
    · obtain ⟨⟨a0, z0, a1, z1, a2, z2⟩, y0, b1, y1, b2, y2⟩ := put_facts HOwn2.out kk hkl (.cells #[.string (x.path ++ ⟨#[47]⟩), .int .i64 x.kind, .string x.data] 30) (x.path ++ ⟨#[47]⟩) x.kind x HX.out
      have cA := hide (pack_again HOwn2.out kk hkl (.cells #[.string (x.path ++ ⟨#[47]⟩), .int .i64 x.kind, .string x.data] 30) (chg x ⟨#[]⟩ 0) HTr.out.sm (by simp only [chg, ByteArray.size_append]; exact ⟨by have e : (⟨#[47]⟩ : ByteArray).size = 1 := rfl; omega, by omega⟩) HT.out hbw)
      have hbad := bad_chg HTr.out kk hkl 0 (by omega)
      rw [HX.out] at hbad
      rw [hbad] at cA
      unfold putW chg at cA
      clear hbad
      go_wp2_with fail
      refine cA.out.mono ?_
      rintro e w5 ⟨rfl, hb5⟩
      clear cA a0 a1 a2 z0 z1 z2 c0 c1 c2 y0 y1 y2 b1 b2
      go_wp2
      go_ret
      exact ⟨rfl, hb5⟩
    · obtain ⟨⟨a0, z0, a1, z1, a2, z2⟩, y0, b1, y1, b2, y2⟩ := put_facts HOwn2.out kk hkl (.cells #[.string (x.path ++ ⟨#[10]⟩), .int .i64 x.kind, .string x.data] 30) (x.path ++ ⟨#[10]⟩) x.kind x HX.out
      have cA := hide (pack_again HOwn2.out kk hkl (.cells #[.string (x.path ++ ⟨#[10]⟩), .int .i64 x.kind, .string x.data] 30) (chg x ⟨#[]⟩ 1) HTr.out.sm (by simp only [chg, ByteArray.size_append]; exact ⟨by have e : (⟨#[10]⟩ : ByteArray).size = 1 := rfl; omega, by omega⟩) HT.out hbw)
      have hbad := bad_chg HTr.out kk hkl 1 (by omega)
      rw [HX.out] at hbad
      rw [hbad] at cA
      unfold putW chg at cA
      clear hbad
      go_wp2_with fail
      refine cA.out.mono ?_
      rintro e w5 ⟨rfl, hb5⟩
      clear cA a0 a1 a2 z0 z1 z2 c0 c1 c2 y0 y1 y2 b1 b2
      go_wp2
      go_ret
      exact ⟨rfl, hb5⟩
    · obtain ⟨⟨a0, z0, a1, z1, a2, z2⟩, y0, b1, y1, b2, y2⟩ := put_facts HOwn2.out kk hkl (.cells #[.string (x.path), .int .i64 5, .string x.data] 30) (x.path) 5 x HX.out
      have cA := hide (pack_again HOwn2.out kk hkl (.cells #[.string (x.path), .int .i64 5, .string x.data] 30) (chg x ⟨#[]⟩ 2) HTr.out.sm (by simp only [chg]; exact ⟨by omega, by omega⟩) HT.out hbw)
      have hbad := bad_chg HTr.out kk hkl 2 (by omega)
      rw [HX.out] at hbad
      rw [hbad] at cA
      unfold putW chg at cA
      clear hbad
      go_wp2_with fail
      refine cA.out.mono ?_
      rintro e w5 ⟨rfl, hb5⟩
      clear cA a0 a1 a2 z0 z1 z2 c0 c1 c2 y0 y1 y2 b1 b2
      go_wp2
      go_ret
      exact ⟨rfl, hb5⟩
    · obtain ⟨⟨a0, z0, a1, z1, a2, z2⟩, y0, b1, y1, b2, y2⟩ := put_facts HOwn2.out kk hkl (.cells #[.string (x.path), .int .i64 0, .string x.data] 30) (x.path) 0 x HX.out
      have cA := hide (pack_again HOwn2.out kk hkl (.cells #[.string (x.path), .int .i64 0, .string x.data] 30) (chg x ⟨#[]⟩ 3) HTr.out.sm (by simp only [chg]; exact ⟨by omega, by omega⟩) HT.out hbw)
      have hbad := bad_chg HTr.out kk hkl 3 (by omega)
      rw [HX.out] at hbad
      rw [hbad] at cA
      unfold putW chg at cA
      clear hbad
      go_wp2_with fail
      refine cA.out.mono ?_
      rintro e w5 ⟨rfl, hb5⟩
      clear cA a0 a1 a2 z0 z1 z2 c0 c1 c2 y0 y1 y2 b1 b2
      go_wp2
      go_ret
      exact ⟨rfl, hb5⟩
    · obtain ⟨⟨a0, z0, a1, z1, a2, z2⟩, y0, b1, y1, b2, y2⟩ := put_facts HOwn2.out kk hkl (.cells #[.string (⟨#[110, 111, 119, 104, 101, 114, 101, 47]⟩ ++ x.path), .int .i64 x.kind, .string x.data] 30) (⟨#[110, 111, 119, 104, 101, 114, 101, 47]⟩ ++ x.path) x.kind x HX.out
      have cA := hide (pack_again HOwn2.out kk hkl (.cells #[.string (⟨#[110, 111, 119, 104, 101, 114, 101, 47]⟩ ++ x.path), .int .i64 x.kind, .string x.data] 30) (chg x ⟨#[]⟩ 4) HTr.out.sm (by simp only [chg, ByteArray.size_append]; exact ⟨by have e : wNowhere.size = 8 := rfl; omega, by omega⟩) HT.out hbw)
      have hbad := bad_chg HTr.out kk hkl 4 (by omega)
      rw [HX.out] at hbad
      rw [hbad] at cA
      unfold putW chg at cA
      clear hbad
      go_wp2_with fail
      refine cA.out.mono ?_
      rintro e w5 ⟨rfl, hb5⟩
      clear cA a0 a1 a2 z0 z1 z2 c0 c1 c2 y0 y1 y2 b1 b2
      go_wp2
      go_ret
      exact ⟨rfl, hb5⟩
    · obtain ⟨⟨a0, z0, a1, z1, a2, z2⟩, y0, b1, y1, b2, y2⟩ := put_facts HOwn2.out kk hkl (.cells #[.string (⟨#[47]⟩ ++ x.path), .int .i64 x.kind, .string x.data] 30) (⟨#[47]⟩ ++ x.path) x.kind x HX.out
      have cA := hide (pack_again HOwn2.out kk hkl (.cells #[.string (⟨#[47]⟩ ++ x.path), .int .i64 x.kind, .string x.data] 30) (chg x ⟨#[]⟩ 5) HTr.out.sm (by simp only [chg, ByteArray.size_append]; exact ⟨by have e : (⟨#[47]⟩ : ByteArray).size = 1 := rfl; omega, by omega⟩) HT.out hbw)
      have hbad := bad_chg HTr.out kk hkl 5 (by omega)
      rw [HX.out] at hbad
      rw [hbad] at cA
      unfold putW chg at cA
      clear hbad
      go_wp2_with fail
      refine cA.out.mono ?_
      rintro e w5 ⟨rfl, hb5⟩
      clear cA a0 a1 a2 z0 z1 z2 c0 c1 c2 y0 y1 y2 b1 b2
      go_wp2
      go_ret
      exact ⟨rfl, hb5⟩
    · cases kk with
      | zero =>
        go_wp2
        go_ret
        exact ⟨rfl, hbw.alloc hbw.size _⟩
      | succ q =>
        obtain ⟨y, hy⟩ : ∃ y, l[q] = y := ⟨_, rfl⟩
        have HY := hide hy
        clear hy
        obtain ⟨hy1, hy2⟩ : y.path.size ≤ 20000 ∧ y.data.size ≤ 20000 := HTr.out.small y (by rw [← HY.out]; exact List.getElem_mem _)
        have cq : (w3.alloc (.cells #[.string x.path, .int .i64 x.kind, .string x.data] 30)).cell? ⟨g, q * 3, none⟩ = some (.string y.path) := by
          obtain ⟨f0, _, _⟩ := flat3_get l q (by omega)
          rw [HY.out] at f0
          exact ((HOwn2.out.alloc _).cellAt (q * 3) (by omega)).trans f0
        obtain ⟨⟨a0, z0, a1, z1, a2, z2⟩, y0, b1, y1, b2, y2⟩ := put_facts HOwn2.out (q + 1) hkl (.cells #[.string y.path, .int .i64 x.kind, .string x.data] 30) y.path x.kind x HX.out
        have cA := hide (pack_again HOwn2.out (q + 1) hkl (.cells #[.string y.path, .int .i64 x.kind, .string x.data] 30) ⟨y.path, x.kind, x.data⟩ HTr.out.sm (by simp only; exact ⟨by omega, by omega⟩) HT.out hbw)
        have hbad := bad_same HTr.out q hkl
        rw [HX.out, HY.out] at hbad
        rw [hbad] at cA
        unfold putW at cA
        clear hbad
        go_wp2_with fail
        refine cA.out.mono ?_
        rintro e w5 ⟨rfl, hb5⟩
        clear cA a0 a1 a2 z0 z1 z2 c0 c1 c2 y0 y1 y2 b1 b2
        go_wp2
        go_ret
        exact ⟨rfl, hb5⟩
end Go.Proofs.YticfcjmlphhpgabDoorRRR
