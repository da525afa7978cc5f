import Derived.Test.YticcbaapbnfmmaaDoorP19
import Derived.Test.YticcbaapbnfmmaaDoorP20
import Derived.Deep.CutBlock
/-
  narkeep.at; the order of what a path leads to.
-/
namespace Go.Proofs.YticcbaapbnfmmaaDoor
open Go.RowKit Go.Maps

def atG : Nat → List ByteArray → ByteArray → Int
  | _, [], _ => -1
  | i, x :: r, s => if x = s then (i : Int) else atG (i + 1) r s
def atF (l : List ByteArray) (s : ByteArray) : Int := atG 0 l s
theorem atG_no : ∀ (l : List ByteArray) (i : Nat) (s : ByteArray), ¬ s ∈ l → atG i l s = -1
  | [], _, _, _ => rfl
  | x :: r, i, s, h => by
    unfold atG
    rw [if_neg (fun e => h (by rw [e]; simp)), atG_no r (i + 1) s (fun hm => h (List.mem_cons_of_mem _ hm))]
theorem atG_yes : ∀ (l : List ByteArray) (i k : Nat) (s : ByteArray) (hk : k < l.length), l[k] = s → (∀ j (hj : j < k), l[j] ≠ s) → atG i l s = ((i + k : Nat) : Int)
  | x :: r, i, 0, s, hk, h, _ => by
    have h : x = s := h
    unfold atG
    rw [if_pos h]
    rfl
  | x :: r, i, k + 1, s, hk, h, hn => by
    unfold atG
    rw [if_neg (show ¬ x = s from hn 0 (by omega)), atG_yes r (i + 1) k s (by simpa using hk) (by simpa using h) (fun j hj => by have := hn (j + 1) (by omega); simpa using this)]
    congr 1
    omega
theorem atF_no {l : List ByteArray} {s : ByteArray} (h : ¬ s ∈ l) : atF l s = -1 := atG_no l 0 s h
theorem atF_yes {l : List ByteArray} {s : ByteArray} {k : Nat} (hk : k < l.length) (h : l[k] = s) (hn : ∀ j (hj : j < k), l[j] ≠ s) : atF l s = (k : Nat) := by
  have := atG_yes l 0 k s hk h hn
  rw [Nat.zero_add] at this
  exact this
theorem atF_mem {l : List ByteArray} {s : ByteArray} (h : s ∈ l) : ∃ k : Nat, k < l.length ∧ atF l s = (k : Nat) := by
  have key : ∀ (l : List ByteArray) (i : Nat), s ∈ l → ∃ k : Nat, k < l.length ∧ atG i l s = ((i + k : Nat) : Int) := by
    intro l
    induction l with
    | nil => intro i h; cases h
    | cons x r ih =>
      intro i h
      unfold atG
      by_cases e : x = s
      · exact ⟨0, by simp, by rw [if_pos e]; rfl⟩
      · rw [if_neg e]
        have hr : s ∈ r := by
          rcases List.mem_cons.1 h with h | h
          · exact absurd h.symm e
          · exact h
        obtain ⟨k, h1, h2⟩ := ih (i + 1) hr
        exact ⟨k + 1, by simpa using h1, by rw [h2]; congr 1; omega⟩
  obtain ⟨k, h1, h2⟩ := key l 0 h
  exact ⟨k, h1, by unfold atF; rw [h2, Nat.zero_add]⟩
set_option maxRecDepth 20000 in
set_option maxHeartbeats 1000000 in
theorem at_any (v : Value) (l : List ByteArray) (s : ByteArray) (w : World) (hv : SliceS w v l) (hl : l.length ≤ 1000000) :
    Calls Tryd.prog 7 #[v, .string s] w fun e w' => e = .returned (.int .i64 (atF l s)) ∧ w' = w := by
  obtain ⟨a, cc, rfl, hcap, hcell⟩ := hv
  have HC := hide hcell
  clear hcell
  obtain ⟨A, hA⟩ : ∃ A, atF l s = A := ⟨_, rfl⟩
  rw [hA]
  have HA := hide hA
  clear hA
  go_enter Tryd.func7, Tryd.ntmps7
  go_wp2
  go_loop [5, 6, 9] (fun _ _ v9 => ∃ k : Nat, k ≤ l.length ∧ v9 = .int .i64 (k : Nat) ∧ Hid (∀ j (hj : j < k) (h : j < l.length), l[j] ≠ s)) (fun _ _ v9 => l.length - (intOf v9).toNat)
  case atStart => exact ⟨0, by omega, rfl, hide (fun j hj => absurd hj (Nat.not_lt_zero _))⟩
  case round =>
    obtain ⟨k, hk, rfl, HN⟩ := hrel
    by_cases hlt : k < l.length
    · have hltz : (k : Int) < l.length := by omega
      obtain ⟨g, o, rfl, hg, hcl0⟩ := HC.out (by omega)
      have hcl := hcl0 k hlt
      clear hcl0
      by_cases he : l[k] = s
      · rw [he] at hcl
        have hb : (s.toList == s.toList) = true := by simp
        have hAk : A = (k : Nat) := by rw [← HA.out]; exact atF_yes hlt he (fun j hj => HN.out j hj (by omega))
        subst hAk
        clear he
        go_wp2
        go_ret
        exact ⟨rfl, rfl⟩
      · have hb : (l[k].toList == s.toList) = false := beq_eq_false_iff_ne.2 fun e => he (by
          rw [ByteArray.toList_eq, ByteArray.toList_eq] at e
          exact WideShapes.bytes_inj e)
        have HN2 : Hid (∀ j (hj : j < k + 1) (h : j < l.length), l[j] ≠ s) := hide fun j hj h => by
          by_cases e : j = k
          · subst e; exact he
          · exact HN.out j (by omega) h
        generalize l[k] = x at hcl hb
        clear he HN
        go_wp2
        go_round
        case rel => exact ⟨k + 1, by omega, by go_num, HN2⟩
        case measure => simp [intOf]; omega
    · obtain rfl : k = l.length := by omega
      have hAk : A = -1 := by
        rw [← HA.out]
        exact atF_no fun hm => by
          obtain ⟨j, hj, e⟩ := List.getElem_of_mem hm
          exact HN.out j hj hj e
      subst hAk
      go_wp2
      go_ret
      exact ⟨rfl, rfl⟩
/-- What was told when. -/
theorem ord_at {P : ByteArray → Bool} {S : List Ent} {out : List ByteArray} (h : HP.OrdSt P S out) : ∀ k (hk : k < out.length), ∃ e ∈ S, e.path = out[k] ∧ ¬ out[k] ∈ out.take k ∧ ∀ r ∈ e.refs, r = out[k] ∨ r ∈ out.take k := by
  induction h with
  | nil => intro k hk; cases hk
  | @snoc out e ho hn ih =>
    intro k hk
    obtain ⟨he, hi, hrd⟩ := next_some hn
    by_cases hlt : k < out.length
    · obtain ⟨x, h1, h2, h3, h4⟩ := ih k hlt
      rw [List.getElem_append_left hlt, List.take_append_of_le_length (by omega)]
      exact ⟨x, h1, h2, h3, h4⟩
    · obtain rfl : k = out.length := by rw [List.length_append, List.length_singleton] at hk; omega
      have e1 : (out ++ [e.path])[out.length] = e.path := by simp
      rw [e1, List.take_left]
      refine ⟨e, he, rfl, fun hm => ?_, fun r hr => ?_⟩
      · rw [HP.inL_iff.2 hm] at hi; cases hi
      · have := List.all_eq_true.1 hrd r hr
        rw [Bool.or_eq_true, decide_eq_true_eq] at this
        exact this.imp id HP.inL_iff.1
theorem take_idx {l : List ByteArray} {x : ByteArray} {k : Nat} (h : x ∈ l.take k) : ∃ j, ∃ hj : j < l.length, j < k ∧ l[j] = x := by
  obtain ⟨j, hj, e⟩ := List.getElem_of_mem h
  rw [List.length_take] at hj
  rw [List.getElem_take] at e
  exact ⟨j, by omega, by omega, e⟩
theorem idx_take {l : List ByteArray} {j k : Nat} (hj : j < l.length) (hk : j < k) : l[j] ∈ l.take k := by
  rw [List.mem_iff_getElem]
  exact ⟨j, by rw [List.length_take]; omega, by rw [List.getElem_take]⟩
/-- What Closed asks of an order. -/
structure ClP (S : List Ent) (root : ByteArray) (out : List ByteArray) : Prop where
  pos : 0 < out.length
  last : atF out root = ((out.length - 1 : Nat) : Int)
  once : ∀ k (hk : k < out.length), ¬ out[k] ∈ out.take k
  ent : ∀ k (hk : k < out.length), ∃ e ∈ S, e.path = out[k] ∧ ∀ r ∈ e.refs, r = out[k] ∨ r ∈ out.take k
  used : ∀ k (hk : k < out.length), out[k] = root ∨ ∃ m, ∃ hm : m < out.length, k < m ∧ ∃ e ∈ S, e.path = out[m] ∧ out[k] ∈ e.refs
theorem closed_math {S : List Ent} {root : ByteArray} {roots out : List ByteArray} (hA : Acyc S) (hC : ClosedS S) (hr1 : root ∈ roots) (hr2 : ∀ r ∈ roots, r = root) (hl : lackR S roots = false) (hc : ClosR S roots out) : ClP S root out := by
  unfold ClosR at hc
  rw [if_neg (by rw [hl]; simp)] at hc
  have hord := ord_at hc.1
  have hfull := final_full hA hC hl hc
  have hone : ∀ k (hk : k < out.length), ¬ out[k] ∈ out.take k := fun k hk => by
    obtain ⟨_, _, _, h, _⟩ := hord k hk
    exact h
  have hinj : ∀ j k (hj : j < out.length) (hk : k < out.length), out[j] = out[k] → j = k := fun j k hj hk e => by
    rcases Nat.lt_trichotomy j k with h | h | h
    · exact absurd (by rw [← e]; exact idx_take hj h) (hone k hk)
    · exact h
    · exact absurd (by rw [e]; exact idx_take hk h) (hone j hj)
  have hrch : ∀ k (hk : k < out.length), HP.Rch S roots out[k] := fun k hk => HP.rchB_iff.1 (hc.1.mem _ (List.getElem_mem hk)).1
  obtain ⟨m, hm, hme⟩ := List.getElem_of_mem (HP.inL_iff.1 (hfull root (.root hr1)))
  have hin : ∀ p, HP.Rch S roots p → p ∈ out.take (m + 1) := fun p hp => by
    induction hp with
    | root h => rw [hr2 _ h, ← hme]; exact idx_take hm (by omega)
    | @ref r e _ he hr ih =>
      obtain ⟨j, hj, hjm, hje⟩ := take_idx ih
      obtain ⟨x, hx, hxp, _, hxr⟩ := hord j hj
      have hxe : x = e := by
        have h1 := findS_eq hC.rise hx
        have h2 := findS_eq hC.rise he
        rw [hxp, hje, h2] at h1
        injection h1 with h1
        exact h1.symm
      subst hxe
      rcases hxr r hr with h | h
      · rw [h]; exact idx_take hj hjm
      · obtain ⟨i, hi, hij, hie⟩ := take_idx h
        rw [← hie]; exact idx_take hi (by omega)
  have hlast : m = out.length - 1 := by
    have h1 : out.length - 1 < out.length := by omega
    obtain ⟨j, hj, hjm, hje⟩ := take_idx (hin _ (hrch (out.length - 1) h1))
    have := hinj j (out.length - 1) hj h1 hje
    omega
  refine ⟨by omega, ?_, hone, fun k hk => ?_, fun k hk => ?_⟩
  · rw [← hlast]
    exact atF_yes hm hme fun j hj e => by
      have := hinj j m (by omega) hm (e.trans hme.symm)
      omega
  · obtain ⟨e, h1, h2, _, h4⟩ := hord k hk
    exact ⟨e, h1, h2, h4⟩
  · have key : ∀ p, HP.Rch S roots p → p = root ∨ ∃ e ∈ S, HP.Rch S roots e.path ∧ e.path ≠ p ∧ p ∈ e.refs := fun p hp => by
      induction hp with
      | root h => exact .inl (hr2 _ h)
      | @ref r e h he hr ih =>
        by_cases hep : e.path = r
        · rw [hep] at ih; exact ih
        · exact .inr ⟨e, he, h, hep, hr⟩
    rcases key _ (hrch k hk) with h | ⟨e, he, hre, hne, hpr⟩
    · exact .inl h
    · obtain ⟨j, hj, hje⟩ := List.getElem_of_mem (HP.inL_iff.1 (hfull _ hre))
      refine .inr ⟨j, hj, ?_, e, he, hje.symm, hpr⟩
      obtain ⟨x, hx, hxp, _, hxr⟩ := hord j hj
      have hxe : x = e := by
        have h1 := findS_eq hC.rise hx
        have h2 := findS_eq hC.rise he
        rw [hxp, hje, h2] at h1
        injection h1 with h1
        exact h1.symm
      subst hxe
      rcases hxr _ hpr with h | h
      · exact absurd (h.trans hje).symm hne
      · obtain ⟨i, hi, hij, hie⟩ := take_idx h
        have := hinj i k hi hk hie
        omega
end Go.Proofs.YticcbaapbnfmmaaDoor
/-
  WALK of narkeep.Closed.
-/
namespace Go.Proofs.YticcbaapbnfmmaaDoor
open Go.RowKit Go.Maps

def nms (n : Nat) : List ByteArray := (List.range n).map nmK
theorem nms_len (n : Nat) : (nms n).length = n := by simp [nms]
theorem nms_get {n k : Nat} (h : k < (nms n).length) : (nms n)[k] = nmK k := by simp [nms]
theorem at_nms {n k : Nat} (hk : k < n) (hn : n ≤ 10) : atF (nms n) (nmK k) = (k : Nat) :=
  atF_yes (by rw [nms_len]; exact hk) (nms_get _) fun j hj e => by
    rw [nms_get] at e
    have := nmK_inj (by omega) (by omega) e
    omega
/-- A piece of a list of texts. -/
theorem slice_take {w : World} {a : Option Addr} {c : Nat} {l : List ByteArray} (h : SliceS w (.slice a l.length c) l) (k : Nat) (hk : k ≤ l.length) : SliceS w (.slice a k c) (l.take k) := by
  obtain ⟨_, _, e, h1, h2⟩ := h
  injection e with e1 _ e2
  subst e1; subst e2
  have hl : (l.take k).length = k := by rw [List.length_take]; omega
  refine ⟨a, c, by rw [hl], by rw [hl]; omega, fun hp => ?_⟩
  rw [hl] at hp
  obtain ⟨b, o, rfl, hb, hc⟩ := h2 (by omega)
  exact ⟨b, o, rfl, hb, fun j hj => by rw [hc j (by rw [hl] at hj; omega), List.getElem_take]⟩
def refsOf (S : List Ent) (p : ByteArray) : List ByteArray := match findS S p with
  | some e => e.refs
  | none => []
theorem refsOf_eq {S : List Ent} {p : ByteArray} {e : Ent} (h : findS S p = some e) : refsOf S p = e.refs := by unfold refsOf; rw [h]
def usedB (S : List Ent) (root p : ByteArray) (l : List ByteArray) : Bool := decide (p = root) || l.any fun u => inL (refsOf S u) p
theorem none_path {S : List Ent} {n : Nat} (h : StN S n) : findS S ⟨#[110, 111, 110, 101]⟩ = none := by
  cases hf : findS S ⟨#[110, 111, 110, 101]⟩ with
  | none => rfl
  | some e =>
    obtain ⟨he, hp⟩ := findS_some hf
    obtain ⟨k, _, hk, _⟩ := h.path e he
    have h3 := nmK_size k
    rw [← hk, hp] at h3
    cases h3
set_option maxRecDepth 20000 in
set_option maxHeartbeats 4000000 in
theorem Closed_big (s : ByteArray) (n : Int) (w : World) (hs : (16384 : Int) < s.size) :
    Calls Tryd.prog 3 #[.string s, .int .i64 n] w fun e w' => e = .returned (.bool true) ∧ Below w.heap.size w w' := by
  go_enter Tryd.func3, Tryd.ntmps3
  go_wp2
  go_ret
  exact ⟨rfl, Below.refl _ _⟩
/-- What Closed knows while it looks. -/
structure ClW (S : List Ent) (n : Nat) (g7 o7 c7 g8 c8 : Nat) (xs : List Value) (root : ByteArray) (out : List ByteArray) (gl ol cl : Nat) (w : World) : Prop where
  nm : SliceS w (.slice (some ⟨g7, o7, none⟩) n c7) (nms n)
  len : xs.length = n
  rf : ∀ i (h : i < xs.length), w.cell? ⟨g8, i, none⟩ = some xs[i] ∧ ∃ e, findS S (nmK i) = some e ∧ SliceS w xs[i] e.refs ∧ e.refs.length ≤ 1000
  ls : SliceS w (.slice (some ⟨gl, ol, none⟩) out.length cl) out
  cp : ClP S root out
  path : ∀ e ∈ S, ∃ k, k < n ∧ e.path = nmK k
  rise : Rising S
theorem ClW.drew {S : List Ent} {n g7 o7 c7 g8 c8 : Nat} {xs : List Value} {root : ByteArray} {out : List ByteArray} {gl ol cl : Nat} {w w' : World} (h : ClW S n g7 o7 c7 g8 c8 xs root out gl ol cl w) (hb : Below w.heap.size w w') (h8 : g8 < w.heap.size) : ClW S n g7 o7 c7 g8 c8 xs root out gl ol cl w' := by
  refine ⟨h.nm.below hb, h.len, fun i hi => ?_, h.ls.below hb, h.cp, h.path, h.rise⟩
  obtain ⟨h1, e, h2, h3, h4⟩ := h.rf i hi
  exact ⟨(hb.cell (p := ⟨g8, i, none⟩) h8).trans h1, e, h2, h3.below hb, h4⟩
/-- The place of a path that was told, and its references. -/
theorem ClW.at {S : List Ent} {n g7 o7 c7 g8 c8 : Nat} {xs : List Value} {root : ByteArray} {out : List ByteArray} {gl ol cl : Nat} {w : World} (h : ClW S n g7 o7 c7 g8 c8 xs root out gl ol cl w) (hn : n ≤ 10) (k : Nat) (hk : k < out.length) : ∃ (j : Nat) (a : Option Addr) (c : Nat) (rs : List ByteArray), j < n ∧ atF (nms n) out[k] = (j : Nat) ∧ w.cell? ⟨g8, j, none⟩ = some (.slice a rs.length c) ∧ SliceS w (.slice a rs.length c) rs ∧ rs.length ≤ 1000 ∧ refsOf S out[k] = rs ∧ ∀ r ∈ rs, r = out[k] ∨ r ∈ out.take k := by
  obtain ⟨e, he, hp, hr⟩ := h.cp.ent k hk
  obtain ⟨j, hj, hpj⟩ := h.path e he
  obtain ⟨h1, e', h2, h3, h4⟩ := h.rf j (by rw [h.len]; exact hj)
  have hfe := findS_eq h.rise he
  rw [hpj, h2] at hfe
  injection hfe with hfe
  subst hfe
  obtain ⟨a, c, hx, h5⟩ := id h3
  rw [hx] at h1 h3
  refine ⟨j, a, c, e'.refs, hj, ?_, h1, h3, h4, ?_, hr⟩
  · rw [← hp, hpj]; exact at_nms hj hn
  · rw [← hp, hpj]; exact refsOf_eq h2
end Go.Proofs.YticcbaapbnfmmaaDoor
/-
  WALK of narkeep.Closed, 2.
-/
namespace Go.Proofs.YticcbaapbnfmmaaDoor
open Go.RowKit Go.Maps

theorem two_sliceS (w : World) (a b : ByteArray) : SliceS (w.alloc (.cells #[.string a, .string b] 9)) (.slice (some ⟨w.heap.size, 0, none⟩) 2 2) [a, b] := by
  have h := block_new w (.cells #[.string a, .string b] 9)
  refine ⟨_, _, rfl, Nat.le_refl _, fun _ => ⟨w.heap.size, 0, rfl, by rw [World.size_alloc]; omega, fun j hj => ?_⟩⟩
  simp only [World.cell?, h]
  match j, hj with
  | 0, _ => rfl
  | 1, _ => rfl
theorem eqb_no {a b : ByteArray} (h : ¬ a = b) : (a.toList == b.toList) = false := beq_eq_false_iff_ne.2 fun e => h (by
  rw [ByteArray.toList_eq, ByteArray.toList_eq] at e
  exact WideShapes.bytes_inj e)
theorem nst_below {w w' : World} {q b : Nat} {S : List Ent} (h : NSt w q b S) (hb : Below w.heap.size w w') : NSt w' q b S := ⟨(hb.block _ (lt_of_block h.1)).trans h.1, h.2.below hb⟩
set_option maxRecDepth 20000 in
set_option maxHeartbeats 8000000 in
theorem Closed_any (s : ByteArray) (c : Int) (w : World) (hT : Lib.Utf8Tabs 0 1 w) (hc : -9223372036854775808 ≤ c ∧ c ≤ 9223372036854775807) (hs : s.size ≤ 16384) :
    Calls Tryd.prog 3 #[.string s, .int .i64 c] w fun e w' => e = .returned (.bool true) ∧ Below w.heap.size w w' := by
  have hab : (ByteArray.mk #[97, 98] ++ s).size ≤ 16386 := by
    have h2 : (ByteArray.mk #[97, 98]).size = 2 := rfl
    rw [ByteArray.size_append]; omega
  have hab2 : 2 ≤ (ByteArray.mk #[97, 98] ++ s).size := by
    have h2 : (ByteArray.mk #[97, 98]).size = 2 := rfl
    rw [ByteArray.size_append]; omega
  have cS := hide (stored_any (ByteArray.mk #[97, 98] ++ s) w hT hab)
  go_enter Tryd.func3, Tryd.ntmps3
  go_wp2_with fail
  refine cS.out.mono ?_
  rintro e w1 ⟨q, b, S, n, v7, v8, xs, rfl, hN, hSt, hn, hpos, hv7, hbw, hb1, hv8, hrf⟩
  have hn0 := hpos hab2
  obtain ⟨i, hi⟩ : ∃ i, pickN c n = i := ⟨_, rfl⟩
  have hin : i < n := by rw [← hi]; exact pickN_lt c hn0
  have cP := hide (pick_det c n hn0 (by omega) hc w1)
  rw [hi] at cP
  have hv : SliceS w1 v7 (nms n) := own_strs (by rw [nms_len]; exact hv7)
  have HV := hide hv
  obtain ⟨a7, c7, rfl, hc7, hv⟩ := hv
  obtain ⟨g7, o7, rfl, hg7, hv⟩ := hv (by rw [nms_len]; omega)
  have hv := hv i (by rw [nms_len]; exact hin)
  rw [nms_get] at hv
  rw [nms_len] at HV hc7 ⊢
  have hxl : xs.length = n := by have := hv8.1; omega
  obtain ⟨g8, c8, rfl, _⟩ := own_form hv8 hn0
  have hg8 := (hv8.lt g8 rfl).2
  have hrf1 : ∀ i (h : i < xs.length), w1.cell? ⟨g8, i, none⟩ = some xs[i] ∧ ∃ e, findS S (nmK i) = some e ∧ SliceS w1 xs[i] e.refs ∧ e.refs.length ≤ 1000 := fun i h => by
    obtain ⟨e, h1, h2⟩ := hrf i h
    refine ⟨?_, e, h1, h2, by have := hSt.ok.ok.few e (findS_some h1).1; omega⟩
    rw [hv8.cellAt i (by omega), List.getElem?_eq_getElem h]
  have hrz : (nmK i).size ≤ 1000000000 := by rw [nmK_size]; omega
  have hlk := hSt.lack hin
  have hlk2 : lackR S [nmK i, nmK i] = false := by
    unfold lackR at hlk ⊢
    simp only [List.any_cons, List.any_nil, Bool.or_false] at hlk ⊢
    rw [hlk]; rfl
  have hlk3 : lackR S [nmK i, ⟨#[110, 111, 110, 101]⟩] = true := by
    unfold lackR
    simp only [List.any_cons, List.any_nil, Bool.or_false]
    rw [none_path hSt]
    simp
  have hpath : ∀ e ∈ S, ∃ k, k < n ∧ e.path = nmK k := fun e he => by
    obtain ⟨k, h1, h2, _⟩ := hSt.path e he
    exact ⟨k, h1, h2⟩
  have hcl := hSt.ok.ok.ok.closed
  have hac := hSt.acyc hn
  have hSl := hSt.len
  generalize hr : nmK i = r at hv hrz hlk2 hlk3
  have cC : Hid (Calls Tryd.prog 6 #[.pointer (some ⟨q, 0, none⟩), .slice (some ⟨w1.heap.size, 0, none⟩) 2 2] (w1.alloc (.cells #[.string r, .string r] 9)) fun e w' => ∃ gl ol cl out, e = .returned (.tuple #[.slice (some ⟨gl, ol, none⟩) out.length cl, .int .i64 0]) ∧ ClW S n g7 o7 c7 g8 c8 xs r out gl ol cl w' ∧ out.length ≤ 10 ∧ Below w1.heap.size w1 w') := hide (by
    have hA := (Below.refl _ w1).alloc (Nat.le_refl _) (.cells #[.string r, .string r] 9)
    refine (narClosure_any q b S _ [r, r] _ (nst_below hN hA) hcl (two_sliceS w1 r r) (by simp) (fun x hx => by simp at hx; subst hx; exact hrz)).mono ?_
    rintro e w' ⟨v, out, rfl, h1, h2, h3⟩
    have hcp := closed_math hac hcl (root := r) (by simp) (by simp) hlk2 h2
    have h4 := own_strs h1
    obtain ⟨a, cl, rfl, h5, h6⟩ := id h4
    obtain ⟨gl, ol, rfl, h7, _⟩ := h6 hcp.pos
    have hB := hA.trans (h3.mono hA.size)
    refine ⟨gl, ol, cl, out, by rw [hlk2]; rfl, ⟨HV.out.below hB, hxl, fun i h => ?_, h4, hcp, hpath, hcl.rise⟩, ?_, hB⟩
    · obtain ⟨k1, e, k2, k3, k4⟩ := hrf1 i h
      exact ⟨(hB.cell (p := ⟨g8, i, none⟩) hg8).trans k1, e, k2, k3.below hB, k4⟩
    · unfold ClosR at h2
      rw [if_neg (by rw [hlk2]; simp)] at h2
      have := h2.1.len
      omega)
  have cD : Hid (∀ V, Below w1.heap.size w1 V → Calls Tryd.prog 6 #[.pointer (some ⟨q, 0, none⟩), .slice (some ⟨V.heap.size, 0, none⟩) 2 2] (V.alloc (.cells #[.string r, .string ⟨#[110, 111, 110, 101]⟩] 9)) fun e w' => ∃ a m cc, e = .returned (.tuple #[.slice a m cc, .int .i64 15]) ∧ Below w1.heap.size w1 w') := hide fun V hV => by
    have hA := (Below.refl _ V).alloc (Nat.le_refl _) (.cells #[.string r, .string ⟨#[110, 111, 110, 101]⟩] 9)
    refine (narClosure_any q b S _ [r, ⟨#[110, 111, 110, 101]⟩] _ (nst_below (nst_below hN hV) hA) hcl (two_sliceS V r ⟨#[110, 111, 110, 101]⟩) (by simp) (fun x hx => by
      simp only [List.mem_cons, List.not_mem_nil, or_false] at hx
      rcases hx with rfl | rfl
      · exact hrz
      · decide)).mono ?_
    rintro e w' ⟨v, out, rfl, h1, h2, h3⟩
    obtain ⟨a, cl, rfl, _⟩ := own_strs h1
    refine ⟨a, _, cl, by rw [hlk3]; rfl, ?_⟩
    have hB := hV.trans (hA.mono hV.size)
    exact hB.trans (h3.mono hB.size)
  have HB1 := hide hb1
  have hinz : (i : Int) < n := by omega
  clear hN hSt hv7 hbw hb1 hpos hab hab2 cS hT hrf hrf1 hv8 hlk hlk2 hlk3 hpath hcl hac hSl HV hr hi hc hxl hrz hg8
  go_wp2_with fail
  refine cP.out.mono ?_
  rintro e w1 ⟨rfl, rfl⟩
  clear cP
  go_wp2_with fail
  refine cC.out.mono ?_
  rintro e w2 ⟨gl, ol, cl, out, rfl, hW, hout, hb2⟩
  have HW := hide hW
  have HB2 := hide hb2
  have hop := hW.cp.pos
  have cA : Hid (Calls Tryd.prog 7 #[.slice (some ⟨gl, ol, none⟩) out.length cl, .string r] w2 fun e w' => e = .returned (.int .i64 ((out.length : Int) - 1)) ∧ w' = w2) := hide (by
    have h := at_any _ out r w2 hW.ls (by omega)
    rw [hW.cp.last] at h
    have e : ((out.length - 1 : Nat) : Int) = (out.length : Int) - 1 := by omega
    rw [e] at h
    exact h)
  clear hW hb2 cC hv
  go_wp2_with fail
  refine cA.out.mono ?_
  rintro e w3 ⟨rfl, rfl⟩
  clear cA
  go_wp2
  go_loop [12, 13, 14, 16, 17, 19, 63] (fun _ _ _ _ _ _ v63 => ∃ k : Nat, k ≤ out.length ∧ v63 = .int .i64 (k : Nat)) (fun _ _ _ _ _ _ v63 => out.length - (intOf v63).toNat)
  case atStart => exact ⟨0, by omega, rfl⟩
  case round =>
    obtain ⟨k, hk, rfl⟩ := hrel
    by_cases hlt : k < out.length
    · have hltz : (k : Int) < out.length := by omega
      obtain ⟨j, a8, c8', rs, hj, hat, hcell, hsl, hrl, hrf, hrr⟩ := HW.out.at hn k hlt
      obtain ⟨_, _, ee, hlc, hlcell⟩ := HW.out.ls
      injection ee with ee1 _ ee2
      subst ee1; subst ee2
      obtain ⟨_, _, ee, _, hlcell⟩ := hlcell hop
      injection ee with ee
      injection ee with ee1 ee2 _
      subst ee1; subst ee2
      have hck := hlcell k hlt
      have hus := HW.out.cp.used k hlt
      have c1 : Hid (Calls Tryd.prog 7 #[.slice (some ⟨g7, o7, none⟩) n c7, .string out[k]] w3 fun e w' => e = .returned (.int .i64 (j : Nat)) ∧ w' = w3) := hide (by
        have h := at_any _ (nms n) out[k] w3 HW.out.nm (by rw [nms_len]; omega)
        rw [hat] at h
        exact h)
      have htk := slice_take HW.out.ls k (by omega)
      have c2 : Hid (Calls Tryd.prog 7 #[.slice (some ⟨gl, ol, none⟩) k cl, .string out[k]] w3 fun e w' => e = .returned (.int .i64 (-1)) ∧ w' = w3) := hide (by
        have h := at_any _ (out.take k) out[k] w3 htk (by rw [List.length_take]; omega)
        rw [atF_no (HW.out.cp.once k hlt)] at h
        exact h)
      have HTK := hide htk
      have HRR := hide hrr
      have HUS := hide hus
      have HSL := hide hsl
      have HRF := hide hrf
      have HLC := hide hlcell
      clear htk hrr hus hat hsl hrf hlcell
      obtain ⟨p, hp⟩ : ∃ p, out[k] = p := ⟨_, rfl⟩
      rw [hp] at hck c1 c2 HRR HUS HRF
      clear hp
      have hkc : (k : Int) ≤ cl := by omega
      have hk1 : (k : Int) + 1 ≤ out.length := by omega
      have hjz : (j : Int) < n := by omega
      go_wp2_with fail
      refine c1.out.mono ?_
      rintro e w3 ⟨rfl, rfl⟩
      go_wp2_with fail
      refine c2.out.mono ?_
      rintro e w3 ⟨rfl, rfl⟩
      clear c1 c2
      go_wp2
      go_loop [16, 86] (fun _ v86 => ∃ t : Nat, t ≤ rs.length ∧ v86 = .int .i64 (t : Nat)) (fun _ v86 => rs.length - (intOf v86).toNat)
      case atStart => exact ⟨0, by omega, rfl⟩
      case round =>
        obtain ⟨t, ht, rfl⟩ := hrel
        by_cases htl : t < rs.length
        · have htz : (t : Int) < rs.length := by omega
          obtain ⟨_, _, ee, _, hcc⟩ := HSL.out
          injection ee with ee1 _ ee2
          subst ee1; subst ee2
          obtain ⟨ga, oa, rfl, _, hcc⟩ := hcc (by omega)
          have hct := hcc t htl
          have hrx := HRR.out rs[t] (List.getElem_mem _)
          generalize rs[t] = x at hct hrx
          clear hcc
          by_cases hxp : x = p
          · have hb : (x.toList == p.toList) = true := by rw [hxp]; simp
            clear hxp hrx
            go_wp2
            go_round
            case rel => exact ⟨t + 1, by omega, by go_num⟩
            case measure => simp [intOf]; omega
          · obtain ⟨m, _, hm⟩ := atF_mem (hrx.resolve_left hxp)
            have c3 : Hid (Calls Tryd.prog 7 #[.slice (some ⟨gl, ol, none⟩) k cl, .string x] w3 fun e w' => e = .returned (.int .i64 (m : Nat)) ∧ w' = w3) := hide (by
              have h := at_any _ (out.take k) x w3 HTK.out (by rw [List.length_take]; omega)
              rw [hm] at h
              exact h)
            have hb := eqb_no hxp
            clear hxp hrx hm
            go_wp2_with fail
            refine c3.out.mono ?_
            rintro e w3 ⟨rfl, rfl⟩
            go_wp2
            go_round
            case rel => exact ⟨t + 1, by omega, by go_num⟩
            case measure => simp [intOf]; omega
        · obtain rfl : t = rs.length := by omega
          obtain ⟨ub, hub⟩ : ∃ ub, decide (p = r) = ub := ⟨_, rfl⟩
          have hbq : (p.toList == r.toList) = ub := by
            rw [← hub]
            by_cases e : p = r
            · rw [decide_eq_true e, e]; simp
            · rw [decide_eq_false e, eqb_no e]
          have HUB := hide hub
          clear hub
          obtain ⟨D, hD⟩ : ∃ D, out.drop (k + 1) = D := ⟨_, rfl⟩
          have hDl : D.length = out.length - (k + 1) := by rw [← hD, List.length_drop]
          go_upto_region 23 with fail
          go_cut [108, 109, 110] from 105 to 110 (fun v108 v109 v110 wc => ∃ aD cD, v108 = .slice aD D.length cD ∧ v109 = .int .i64 (D.length : Nat) ∧ v110 = .int .i64 0 ∧ Hid (SliceS w3 (.slice aD D.length cD) D) ∧ w3 = wc)
          case first =>
            by_cases hce : cl = k + 1
            · subst hce
              have hD0 : D = [] := List.eq_nil_of_length_eq_zero (by omega)
              have hlo : out.length - (k + 1) = 0 := by omega
              have HD0 := hide hD0
              clear hD0 hD
              go_wp2
              go_meet
              rw [HD0.out]
              exact ⟨_, _, rfl, rfl, rfl, hide ⟨_, _, rfl, Nat.zero_le _, fun h => absurd h (Nat.lt_irrefl 0)⟩, rfl⟩
            · have HD := hide hD
              clear hD
              go_wp2
              go_meet
              refine ⟨some ⟨gl, ol + (k + 1), none⟩, cl - (k + 1), by rw [hDl], by rw [hDl], rfl, hide ?_, rfl⟩
              refine ⟨_, _, rfl, by omega, fun _ => ⟨gl, ol + (k + 1), rfl, ?_, fun m hm => ?_⟩⟩
              · exact World.block_lt_of_cell? _ _ hck
              · have h1 := HLC.out (k + 1 + m) (by omega)
                rw [show ol + (k + 1) + m = ol + (k + 1 + m) by omega, h1]
                have e2 : D[m] = out[k + 1 + m]'(by omega) := by
                  have := HD.out
                  subst this
                  rw [List.getElem_drop]
                rw [e2]
          case rest =>
          obtain ⟨aD, cD, rfl, rfl, rfl, HSD, rfl⟩ := hcut
          go_wp2
          go_loop [17, 19, 110] (fun v17 _ v110 => ∃ t : Nat, t ≤ D.length ∧ v110 = .int .i64 (t : Nat) ∧ v17 = .bool (usedB S r p (D.take t))) (fun _ _ v110 => D.length - (intOf v110).toNat)
          case atStart => exact ⟨0, by omega, rfl, by rw [← HUB.out]; simp [usedB]⟩
          case round =>
            obtain ⟨t, htD, rfl, rfl⟩ := hrel
            by_cases htl : t < D.length
            · have htz : (t : Int) < D.length := by omega
              obtain ⟨_, _, ee, _, hcc⟩ := HSD.out
              injection ee with ee1 _ ee2
              subst ee1; subst ee2
              obtain ⟨ga, oa, rfl, _, hcc⟩ := hcc (by omega)
              have hct := hcc t htl
              have hDt : D[t] = out[k + 1 + t]'(by omega) := by
                have := hD
                subst this
                rw [List.getElem_drop]
              have hux : usedB S r p (D.take (t + 1)) = (usedB S r p (D.take t) || inL (refsOf S D[t]) p) := by
                unfold usedB
                rw [List.take_succ_eq_append_getElem htl, List.any_append, ← Bool.or_assoc]
                simp
              obtain ⟨j2, a2, c2', rs2, hj2, hat2, hcell2, hsl2, hrl2, hrf2, _⟩ := HW.out.at hn (k + 1 + t) (by omega)
              rw [← hDt] at hat2 hrf2
              rw [hrf2] at hux
              have HUX := hide hux
              have c1 : Hid (Calls Tryd.prog 7 #[.slice (some ⟨g7, o7, none⟩) n c7, .string D[t]] w3 fun e w' => e = .returned (.int .i64 (j2 : Nat)) ∧ w' = w3) := hide (by
                have h := at_any _ (nms n) D[t] w3 HW.out.nm (by rw [nms_len]; omega)
                rw [hat2] at h
                exact h)
              have hj2z : (j2 : Int) < n := by omega
              clear hcc hDt hux hat2 hrf2
              generalize D[t] = u at hct c1
              obtain ⟨B, hB⟩ : ∃ B, usedB S r p (D.take t) = B := ⟨_, rfl⟩
              rw [hB] at HUX ⊢
              clear hB
              cases B with
              | true =>
                rw [Bool.true_or] at HUX
                clear c1 hcell2 hsl2
                go_wp2
                go_round
                case rel => exact ⟨t + 1, by omega, by go_num, by rw [HUX.out]⟩
                case measure => simp [intOf]; omega
              | false =>
                rw [Bool.false_or] at HUX
                by_cases hmem : p ∈ rs2
                · obtain ⟨m, _, hm⟩ := atF_mem hmem
                  have c2 : Hid (Calls Tryd.prog 7 #[.slice a2 rs2.length c2', .string p] w3 fun e w' => e = .returned (.int .i64 (m : Nat)) ∧ w' = w3) := hide (by
                    have h := at_any _ rs2 p w3 hsl2 (by omega)
                    rw [hm] at h
                    exact h)
                  have HU2 : Hid (usedB S r p (D.take (t + 1)) = true) := hide (by rw [HUX.out]; exact HP.inL_iff.2 hmem)
                  clear HUX hmem hm hsl2
                  go_wp2_with fail
                  refine c1.out.mono ?_
                  rintro e w3 ⟨rfl, rfl⟩
                  go_wp2_with fail
                  refine c2.out.mono ?_
                  rintro e w3 ⟨rfl, rfl⟩
                  go_wp2
                  go_round
                  case rel => exact ⟨t + 1, by omega, by go_num, by rw [HU2.out]⟩
                  case measure => simp [intOf]; omega
                · have c2 : Hid (Calls Tryd.prog 7 #[.slice a2 rs2.length c2', .string p] w3 fun e w' => e = .returned (.int .i64 (-1)) ∧ w' = w3) := hide (by
                    have h := at_any _ rs2 p w3 hsl2 (by omega)
                    rw [atF_no hmem] at h
                    exact h)
                  have HU2 : Hid (usedB S r p (D.take (t + 1)) = false) := hide (by
                    rw [HUX.out]
                    cases hx : inL rs2 p with
                    | false => rfl
                    | true => exact absurd (HP.inL_iff.1 hx) hmem)
                  clear HUX hmem hsl2
                  go_wp2_with fail
                  refine c1.out.mono ?_
                  rintro e w3 ⟨rfl, rfl⟩
                  go_wp2_with fail
                  refine c2.out.mono ?_
                  rintro e w3 ⟨rfl, rfl⟩
                  go_wp2
                  go_round
                  case rel => exact ⟨t + 1, by omega, by go_num, by rw [HU2.out]⟩
                  case measure => simp [intOf]; omega
            · obtain rfl : t = D.length := by omega
              have hall : usedB S r p (D.take D.length) = true := by
                rw [List.take_length]
                unfold usedB
                rcases HUS.out with h | ⟨m, hm, hkm, e, he, hep, hpe⟩
                · rw [decide_eq_true h]; rfl
                · rw [Bool.or_eq_true]
                  refine .inr (List.any_eq_true.2 ⟨out[m], ?_, ?_⟩)
                  · rw [← hD, List.mem_iff_getElem]
                    exact ⟨m - (k + 1), by rw [List.length_drop]; omega, by rw [List.getElem_drop]; congr 1; omega⟩
                  · have hfe := findS_eq HW.out.rise he
                    rw [hep] at hfe
                    rw [refsOf_eq hfe]
                    exact HP.inL_iff.2 hpe
              rw [hall]
              clear hall
              go_wp2
              go_round
              case rel => exact ⟨k + 1, by omega, by go_num⟩
              case measure => simp [intOf]; omega
    · obtain rfl : k = out.length := by omega
      go_wp2_with fail
      refine (cD.out w3 HB2.out).mono ?_
      rintro e w4 ⟨a4, m4, c4, rfl, hb4⟩
      have HB4 := hide (HB1.out.trans (hb4.mono HB1.out.size))
      clear hb4
      go_wp2
      go_ret
      exact ⟨rfl, HB4.out⟩
end Go.Proofs.YticcbaapbnfmmaaDoor
