import Derived.Test.YticcbaapbnfmmaaDoorP09
import Derived.Maps.AppendAt
import Derived.Deep.RegionWith
namespace Go.Proofs.YticcbaapbnfmmaaDoor
open Go.RowKit
namespace HP
theorem inL_iff {l : List ByteArray} {x : ByteArray} : inL l x = true ↔ x ∈ l := by
  unfold inL
  rw [List.any_eq_true]
  exact ⟨fun ⟨y, h1, h2⟩ => of_decide_eq_true h2 ▸ h1, fun h => ⟨x, h, decide_eq_true rfl⟩⟩
theorem inL_app {l : List ByteArray} {x y : ByteArray} : inL (l ++ [y]) x = (inL l x || decide (x = y)) := by unfold inL; simp
def readyB (out : List ByteArray) (e : Ent) : Bool := e.refs.all fun r => decide (r = e.path) || inL out r
def condB (P : ByteArray → Bool) (out : List ByteArray) (e : Ent) : Bool := P e.path && !inL out e.path && readyB out e
/-- The least that may be told next. -/
def nextF (P : ByteArray → Bool) (S : List Ent) (out : List ByteArray) : Option Ent := S.find? (condB P out)
inductive OrdSt (P : ByteArray → Bool) (S : List Ent) : List ByteArray → Prop
  | nil : OrdSt P S []
  | snoc {out : List ByteArray} {e : Ent} : OrdSt P S out → nextF P S out = some e → OrdSt P S (out ++ [e.path])
/-- All is told. -/
def Final (P : ByteArray → Bool) (S : List Ent) (out : List ByteArray) : Prop := OrdSt P S out ∧ nextF P S out = none
def orderN (P : ByteArray → Bool) (S : List Ent) : Nat → List ByteArray
  | 0 => []
  | n + 1 => match nextF P S (orderN P S n) with
    | none => orderN P S n
    | some e => orderN P S n ++ [e.path]
theorem OrdSt.num {P : ByteArray → Bool} {S : List Ent} {out : List ByteArray} (h : OrdSt P S out) : ∃ k, orderN P S k = out := by
  induction h with
  | nil => exact ⟨0, rfl⟩
  | snoc _ hn ih =>
    obtain ⟨k, rfl⟩ := ih
    exact ⟨k + 1, by simp only [orderN, hn]⟩
theorem orderN_end {P : ByteArray → Bool} {S : List Ent} {k : Nat} (h : nextF P S (orderN P S k) = none) : ∀ m, orderN P S (k + m) = orderN P S k
  | 0 => rfl
  | m + 1 => by
    have ih := orderN_end h m
    show orderN P S ((k + m) + 1) = _
    simp only [orderN]
    rw [ih, h]
theorem Final.uniq {P : ByteArray → Bool} {S : List Ent} {a b : List ByteArray} (ha : Final P S a) (hb : Final P S b) : a = b := by
  obtain ⟨k, rfl⟩ := ha.1.num
  obtain ⟨m, rfl⟩ := hb.1.num
  rcases Nat.le_total k m with h | h
  · obtain ⟨d, rfl⟩ := Nat.exists_eq_add_of_le h
    exact (orderN_end ha.2 d).symm
  · obtain ⟨d, rfl⟩ := Nat.exists_eq_add_of_le h
    exact orderN_end hb.2 d
/-- How many are not told yet. -/
def mu (S : List Ent) (out : List ByteArray) : Nat := S.countP fun e => !inL out e.path
theorem countP_lt {α : Type} {p q : α → Bool} : ∀ {S : List α}, (∀ x ∈ S, q x = true → p x = true) → (∃ x ∈ S, p x = true ∧ q x = false) → S.countP q < S.countP p
  | [], _, ⟨x, h, _⟩ => by cases h
  | x :: S, h1, ⟨y, hy, hp, hq⟩ => by
    have hle : S.countP q ≤ S.countP p := List.countP_mono_left (fun z hz => h1 z (List.mem_cons_of_mem _ hz))
    rw [List.countP_cons, List.countP_cons]
    rcases List.mem_cons.1 hy with rfl | hy
    · rw [hp, hq]; simp; omega
    · have ih := countP_lt (fun z hz => h1 z (List.mem_cons_of_mem _ hz)) ⟨y, hy, hp, hq⟩
      have hx := h1 x List.mem_cons_self
      cases hqx : q x with
      | false => simp; split <;> omega
      | true => rw [hx hqx]; simp; omega
theorem next_mem {P : ByteArray → Bool} {S : List Ent} {out : List ByteArray} {e : Ent} (h : nextF P S out = some e) : e ∈ S ∧ condB P out e = true := ⟨List.mem_of_find?_eq_some h, List.find?_some h⟩
theorem mu_lt {P : ByteArray → Bool} {S : List Ent} {out : List ByteArray} {e : Ent} (h : nextF P S out = some e) : mu S (out ++ [e.path]) < mu S out := by
  obtain ⟨h1, h2⟩ := next_mem h
  unfold condB at h2
  simp only [Bool.and_eq_true] at h2
  refine countP_lt (fun x _ hx => ?_) ⟨e, h1, h2.1.2, by rw [inL_app]; simp⟩
  rw [inL_app, Bool.not_or, Bool.and_eq_true] at hx
  exact hx.1
theorem OrdSt.len {P : ByteArray → Bool} {S : List Ent} {out : List ByteArray} (h : OrdSt P S out) : out.length + mu S out ≤ S.length := by
  induction h with
  | nil => simp only [mu, List.length_nil, Nat.zero_add]; exact List.countP_le_length
  | snoc _ hn ih =>
    have := mu_lt hn
    rw [List.length_append, List.length_singleton]
    omega
/-- The least of all that may: by what is not below. -/
theorem next_least {P : ByteArray → Bool} {S : List Ent} (hR : Rising S) {out : List ByteArray} {e : Ent} (he : e ∈ S) (hc : condB P out e = true) (hl : ∀ x ∈ S, condB P out x = true → bl x.path.data.toList e.path.data.toList = false) : nextF P S out = some e := by
  unfold nextF
  induction S with
  | nil => cases he
  | cons y S ih =>
    obtain ⟨h1, h2⟩ := List.pairwise_cons.1 hR
    rw [List.find?_cons]
    cases hy : condB P out y with
    | true =>
      rcases List.mem_cons.1 he with rfl | he
      · rfl
      · have := hl y List.mem_cons_self hy
        rw [h1 e he] at this
        cases this
    | false =>
      rcases List.mem_cons.1 he with rfl | he
      · rw [hc] at hy; cases hy
      · exact ih h2 he (fun x hx => hl x (List.mem_cons_of_mem _ hx))
theorem next_none {P : ByteArray → Bool} {S : List Ent} {out : List ByteArray} (h : ∀ x ∈ S, condB P out x = false) : nextF P S out = none := List.find?_eq_none.2 (fun x hx => by simp [h x hx])
/-- What some paths lead to. -/
inductive Rch (S : List Ent) (roots : List ByteArray) : ByteArray → Prop
  | root {p : ByteArray} : p ∈ roots → Rch S roots p
  | ref {r : ByteArray} {e : Ent} : Rch S roots e.path → e ∈ S → r ∈ e.refs → Rch S roots r
/-- What holds of the roots and goes on along references. -/
theorem Rch.least {S : List Ent} {roots : List ByteArray} {Q : ByteArray → Prop} (h1 : ∀ p ∈ roots, Q p) (h2 : ∀ e ∈ S, Q e.path → ∀ r ∈ e.refs, Q r) {p : ByteArray} (h : Rch S roots p) : Q p := by
  induction h with
  | root h => exact h1 _ h
  | ref _ he hr ih => exact h2 _ he ih _ hr
noncomputable def rchB (S : List Ent) (roots : List ByteArray) (p : ByteArray) : Bool := @decide (Rch S roots p) (Classical.propDecidable _)
theorem rchB_iff {S : List Ent} {roots : List ByteArray} {p : ByteArray} : rchB S roots p = true ↔ Rch S roots p := by unfold rchB; exact @decide_eq_true_iff _ (Classical.propDecidable _)

/-- A path that is to be told, as it lies in memory: its block, the references that are gone through, who wants it, and the list of these. -/
structure Gn where
  path : ByteArray
  blk : Nat
  done : List ByteArray
  users : List Nat
  uv : Value
def paths (ns : List Gn) : List ByteArray := ns.map (·.path)
def dsum (ns : List Gn) : Nat := (ns.map fun n => n.done.length).sum
def usum (ns : List Gn) : Nat := (ns.map fun n => n.users.length).sum
def nonself (e : Ent) : List ByteArray := e.refs.filter fun r => !decide (r = e.path)
structure GI (S : List Ent) (ns : List Gn) : Prop where
  pd : ∀ n ∈ ns, ∀ n' ∈ ns, n.path = n'.path → n = n'
  bd : ∀ n ∈ ns, ∀ n' ∈ ns, n.blk = n'.blk → n = n'
  inS : ∀ n ∈ ns, ∃ e ∈ S, e.path = n.path
  dn : ∀ n ∈ ns, ∀ r ∈ n.done, ∃ n' ∈ ns, n'.path = r
  cnt : ∀ n ∈ ns, ∀ n' ∈ ns, n.users.count n'.blk = n'.done.countP (fun r => decide (r = n.path))
  us : ∀ n ∈ ns, ∀ b ∈ n.users, ∃ n' ∈ ns, n'.blk = b
  tot : usum ns = dsum ns
  len : ns.length + mu S (paths ns) ≤ S.length
  dl : ∀ n ∈ ns, n.done.length ≤ 1000000
  nd : (ns.map (·.blk)).Nodup
theorem GI.nil (S : List Ent) : GI S [] := by
  refine ⟨?_, ?_, ?_, ?_, ?_, ?_, rfl, ?_, ?_, List.Pairwise.nil⟩ <;> try (intro n hn; cases hn)
  simp only [List.length_nil, Nat.zero_add]
  exact List.countP_le_length
theorem sum_le {l : List Nat} {x : Nat} (h : x ∈ l) : x ≤ l.sum := by
  induction l with
  | nil => cases h
  | cons y l ih =>
    rw [List.sum_cons]
    rcases List.mem_cons.1 h with rfl | h
    · omega
    · have := ih h; omega
theorem sum_bound {l : List Nat} {k : Nat} (h : ∀ x ∈ l, x ≤ k) : l.sum ≤ l.length * k := by
  induction l with
  | nil => simp
  | cons y l ih =>
    rw [List.sum_cons, List.length_cons, Nat.add_mul, Nat.one_mul]
    have := ih (fun x hx => h x (List.mem_cons_of_mem _ hx))
    have := h y List.mem_cons_self
    omega
theorem GI.few {S : List Ent} {ns : List Gn} (h : GI S ns) (hS : S.length ≤ 10) {n : Gn} (hn : n ∈ ns) : n.users.length ≤ 10000000 := by
  have h1 : n.users.length ≤ usum ns := sum_le (List.mem_map.2 ⟨n, hn, rfl⟩)
  have h2 : dsum ns ≤ ns.length * 1000000 := by
    have := sum_bound (l := ns.map fun n => n.done.length) (k := 1000000) (fun x hx => by obtain ⟨m, hm, rfl⟩ := List.mem_map.1 hx; exact h.dl m hm)
    rwa [List.length_map] at this
  have h3 := h.tot
  have h4 := h.len
  have h5 : ns.length * 1000000 ≤ 10 * 1000000 := Nat.mul_le_mul_right _ (by omega)
  omega
theorem mu_cons {S : List Ent} {ns : List Gn} {p : ByteArray} (hp : ∃ e ∈ S, e.path = p) (hno : ∀ n ∈ ns, n.path ≠ p) : mu S (p :: paths ns) < mu S (paths ns) := by
  obtain ⟨e, he, rfl⟩ := hp
  have hin : inL (paths ns) e.path = false := by
    cases hc : inL (paths ns) e.path with
    | false => rfl
    | true =>
      obtain ⟨n, hn, h⟩ := List.mem_map.1 (inL_iff.1 hc)
      exact absurd h (hno n hn)
  refine countP_lt (fun x _ hx => ?_) ⟨e, he, by rw [hin]; rfl, by unfold inL; simp⟩
  unfold inL at hx ⊢
  rw [List.any_cons, Bool.not_or, Bool.and_eq_true] at hx
  exact hx.2
/-- A new one. -/
theorem GI.add {S : List Ent} {ns : List Gn} (h : GI S ns) {p : ByteArray} {b : Nat} {v : Value} (hp : ∃ e ∈ S, e.path = p) (hno : ∀ n ∈ ns, n.path ≠ p) (hb : ∀ n ∈ ns, n.blk ≠ b) : GI S (⟨p, b, [], [], v⟩ :: ns) := by
  have hnb : ∀ n ∈ ns, b ∉ n.users := fun n hn hm => by
    obtain ⟨n', hn', e⟩ := h.us n hn b hm
    exact hb n' hn' e
  refine ⟨?_, ?_, ?_, ?_, ?_, ?_, ?_, ?_, ?_, ?_⟩
  · intro n hn n' hn' e
    rcases List.mem_cons.1 hn with rfl | hn <;> rcases List.mem_cons.1 hn' with rfl | hn'
    · rfl
    · exact absurd e.symm (hno n' hn')
    · exact absurd e (hno n hn)
    · exact h.pd n hn n' hn' e
  · intro n hn n' hn' e
    rcases List.mem_cons.1 hn with rfl | hn <;> rcases List.mem_cons.1 hn' with rfl | hn'
    · rfl
    · exact absurd e.symm (hb n' hn')
    · exact absurd e (hb n hn)
    · exact h.bd n hn n' hn' e
  · intro n hn
    rcases List.mem_cons.1 hn with rfl | hn
    · exact hp
    · exact h.inS n hn
  · intro n hn r hr
    rcases List.mem_cons.1 hn with rfl | hn
    · cases hr
    · obtain ⟨n', hn', e⟩ := h.dn n hn r hr
      exact ⟨n', List.mem_cons_of_mem _ hn', e⟩
  · intro n hn n' hn'
    rcases List.mem_cons.1 hn with rfl | hn <;> rcases List.mem_cons.1 hn' with rfl | hn'
    · rfl
    · simp only [List.count_nil]
      symm
      rw [List.countP_eq_zero]
      intro r hr e
      obtain ⟨m, hm, em⟩ := h.dn n' hn' r hr
      exact hno m hm (em.trans (of_decide_eq_true e))
    · simp only [List.countP_nil]
      exact List.count_eq_zero.2 (hnb n hn)
    · exact h.cnt n hn n' hn'
  · intro n hn b' hb'
    rcases List.mem_cons.1 hn with rfl | hn
    · cases hb'
    · obtain ⟨n', hn', e⟩ := h.us n hn b' hb'
      exact ⟨n', List.mem_cons_of_mem _ hn', e⟩
  · unfold usum dsum
    simp only [List.map_cons, List.sum_cons, List.length_nil, Nat.zero_add]
    exact h.tot
  · have := mu_cons (S := S) hp hno
    have := h.len
    show ns.length + 1 + mu S (p :: paths ns) ≤ S.length
    omega
  · intro n hn
    rcases List.mem_cons.1 hn with rfl | hn
    · exact Nat.zero_le _
    · exact h.dl n hn
  · rw [List.map_cons]
    refine List.nodup_cons.2 ⟨fun hm => ?_, h.nd⟩
    obtain ⟨n, hn, e⟩ := List.mem_map.1 hm
    exact hb n hn e
/-- A reference of bw to bk (whose path is r) is gone through. -/
def stepN (bk bw : Nat) (r : ByteArray) (v : Value) (n : Gn) : Gn := { n with users := if n.blk = bk then n.users ++ [bw] else n.users, uv := if n.blk = bk then v else n.uv, done := if n.blk = bw then n.done ++ [r] else n.done }
theorem paths_step (bk bw : Nat) (r : ByteArray) (v : Value) (ns : List Gn) : paths (ns.map (stepN bk bw r v)) = paths ns := by unfold paths; rw [List.map_map]; rfl
theorem sum_one (f : Gn → Nat) (b : Nat) : ∀ (ns : List Gn), (ns.map (·.blk)).Nodup → (∃ n ∈ ns, n.blk = b) → (ns.map fun n => f n + if n.blk = b then 1 else 0).sum = (ns.map f).sum + 1
  | [], _, ⟨n, h, _⟩ => by cases h
  | x :: ns, hn, ⟨n, h, e⟩ => by
    rw [List.map_cons] at hn
    obtain ⟨h1, h2⟩ := List.nodup_cons.1 hn
    simp only [List.map_cons, List.sum_cons]
    by_cases hx : x.blk = b
    · have : (ns.map fun n => f n + if n.blk = b then 1 else 0) = ns.map f := List.map_congr_left fun m hm => by
        have : m.blk ≠ b := fun em => h1 (List.mem_map.2 ⟨m, hm, em.trans hx.symm⟩)
        rw [if_neg this]; rfl
      rw [this, if_pos hx]; omega
    · rcases List.mem_cons.1 h with rfl | h
      · exact absurd e hx
      · rw [if_neg hx, sum_one f b ns h2 ⟨n, h, e⟩]; omega
theorem GI.step {S : List Ent} {ns : List Gn} (h : GI S ns) {bk bw : Nat} {r : ByteArray} {v : Value} {k m : Gn} (hk : k ∈ ns) (hkb : k.blk = bk) (hkp : k.path = r) (hm : m ∈ ns) (hmb : m.blk = bw) (hml : m.done.length < 1000000) : GI S (ns.map (stepN bk bw r v)) := by
  have hkr : ∀ n ∈ ns, (n.blk = bk ↔ n.path = r) := fun n hn => ⟨fun e => by rw [h.bd n hn k hk (e.trans hkb.symm), hkp], fun e => by rw [h.pd n hn k hk (e.trans hkp.symm), hkb]⟩
  refine ⟨?_, ?_, ?_, ?_, ?_, ?_, ?_, ?_, ?_, ?_⟩
  · intro n hn n' hn' e
    obtain ⟨x, hx, rfl⟩ := List.mem_map.1 hn
    obtain ⟨y, hy, rfl⟩ := List.mem_map.1 hn'
    rw [h.pd x hx y hy e]
  · intro n hn n' hn' e
    obtain ⟨x, hx, rfl⟩ := List.mem_map.1 hn
    obtain ⟨y, hy, rfl⟩ := List.mem_map.1 hn'
    rw [h.bd x hx y hy e]
  · intro n hn
    obtain ⟨x, hx, rfl⟩ := List.mem_map.1 hn
    exact h.inS x hx
  · intro n hn r' hr'
    obtain ⟨x, hx, rfl⟩ := List.mem_map.1 hn
    have : r' ∈ x.done ∨ r' = r := by
      unfold stepN at hr'
      simp only at hr'
      split at hr'
      · rcases List.mem_append.1 hr' with h1 | h1
        · exact .inl h1
        · exact .inr (List.mem_singleton.1 h1)
      · exact .inl hr'
    rcases this with h1 | rfl
    · obtain ⟨n', hn', e⟩ := h.dn x hx r' h1
      exact ⟨_, List.mem_map.2 ⟨n', hn', rfl⟩, e⟩
    · exact ⟨_, List.mem_map.2 ⟨k, hk, rfl⟩, hkp⟩
  · intro n hn n' hn'
    obtain ⟨x, hx, rfl⟩ := List.mem_map.1 hn
    obtain ⟨y, hy, rfl⟩ := List.mem_map.1 hn'
    have hc := h.cnt x hx y hy
    have h1 : (stepN bk bw r v x).users.count y.blk = x.users.count y.blk + if x.blk = bk ∧ y.blk = bw then 1 else 0 := by
      unfold stepN
      simp only
      by_cases e1 : x.blk = bk
      · rw [if_pos e1, List.count_append, List.count_singleton]
        by_cases e2 : y.blk = bw
        · rw [if_pos (by rw [e2]; simp), if_pos ⟨e1, e2⟩]
        · rw [if_neg (by simp; exact Ne.symm e2), if_neg (fun hh => e2 hh.2)]
      · rw [if_neg e1, if_neg (fun hh => e1 hh.1)]; rfl
    have h2 : (stepN bk bw r v y).done.countP (fun r' => decide (r' = x.path)) = y.done.countP (fun r' => decide (r' = x.path)) + if x.blk = bk ∧ y.blk = bw then 1 else 0 := by
      unfold stepN
      simp only
      by_cases e2 : y.blk = bw
      · rw [if_pos e2, List.countP_append, List.countP_singleton]
        by_cases e1 : x.blk = bk
        · rw [if_pos (decide_eq_true ((hkr x hx).1 e1).symm), if_pos ⟨e1, e2⟩]
        · rw [if_neg (fun hh => e1 ((hkr x hx).2 (of_decide_eq_true hh).symm)), if_neg (fun hh => e1 hh.1)]
      · rw [if_neg e2, if_neg (fun hh => e2 hh.2)]; rfl
    show (stepN bk bw r v x).users.count y.blk = (stepN bk bw r v y).done.countP (fun r' => decide (r' = x.path))
    rw [h1, h2, hc]
  · intro n hn b hb
    obtain ⟨x, hx, rfl⟩ := List.mem_map.1 hn
    have : b ∈ x.users ∨ b = bw := by
      unfold stepN at hb
      simp only at hb
      split at hb
      · rcases List.mem_append.1 hb with h1 | h1
        · exact .inl h1
        · exact .inr (List.mem_singleton.1 h1)
      · exact .inl hb
    rcases this with h1 | rfl
    · obtain ⟨n', hn', e⟩ := h.us x hx b h1
      exact ⟨_, List.mem_map.2 ⟨n', hn', rfl⟩, e⟩
    · exact ⟨_, List.mem_map.2 ⟨m, hm, rfl⟩, hmb⟩
  · have h1 : usum (ns.map (stepN bk bw r v)) = usum ns + 1 := by
      unfold usum
      rw [List.map_map, ← sum_one (fun n => n.users.length) bk ns h.nd ⟨k, hk, hkb⟩]
      congr 1
      refine List.map_congr_left fun x _ => ?_
      show (if x.blk = bk then x.users ++ [bw] else x.users).length = _
      split <;> simp
    have h2 : dsum (ns.map (stepN bk bw r v)) = dsum ns + 1 := by
      unfold dsum
      rw [List.map_map, ← sum_one (fun n => n.done.length) bw ns h.nd ⟨m, hm, hmb⟩]
      congr 1
      refine List.map_congr_left fun x _ => ?_
      show (if x.blk = bw then x.done ++ [r] else x.done).length = _
      split <;> simp
    rw [h1, h2, h.tot]
  · rw [List.length_map, paths_step]; exact h.len
  · intro n hn
    obtain ⟨x, hx, rfl⟩ := List.mem_map.1 hn
    show (if x.blk = bw then x.done ++ [r] else x.done).length ≤ _
    by_cases e : x.blk = bw
    · rw [if_pos e]
      have : x = m := h.bd x hx m hm (e.trans hmb.symm)
      rw [this, List.length_append, List.length_singleton]; omega
    · rw [if_neg e]; exact h.dl x hx
  · rw [List.map_map]; exact h.nd
end HP
end Go.Proofs.YticcbaapbnfmmaaDoor
namespace Go.Proofs.YticcbaapbnfmmaaDoor
open Go.RowKit Go.Maps

def ptrP (b : Nat) : Value := .pointer (some ⟨b, 0, none⟩)
/-- A path that is to be told, in memory. -/
structure GnAt (w : World) (B : Nat) (n : HP.Gn) : Prop where
  le : B ≤ n.blk
  blk : w.heap[n.blk]? = some (.cells #[.string n.path, .int .i64 n.done.length, n.uv] 68 (0, 0))
  row : w.ownsRow B 65 1 n.uv n.users.length (n.users.map ptrP)
structure GAt (w : World) (B mb : Nat) (ns : List HP.Gn) : Prop where
  le : B ≤ mb
  map : ∃ L, MapAt w mb L ∧ L.length = ns.length ∧ (∀ n ∈ ns, (n.path.data.toList, ptrP n.blk) ∈ L) ∧ ∀ x ∈ L, ∃ n ∈ ns, x = (n.path.data.toList, ptrP n.blk)
  nd : ∀ n ∈ ns, GnAt w B n
  rows : ∀ n ∈ ns, ∀ n' ∈ ns, n.blk ≠ n'.blk → n.uv.ownBlock = none ∨ n.uv.ownBlock ≠ n'.uv.ownBlock
theorem set_blk {w : World} {b : Nat} {cs : Array Value} {t : TypeId} (h : w.heap[b]? = some (.cells cs t (0, 0))) (j : Nat) (u : Value) : (w.setCell ⟨b, j, none⟩ u).heap[b]? = some (.cells (cs.setIfInBounds j u) t (0, 0)) := by simp [World.setCell, Array.getElem?_modify, h]
theorem own_kept {w w' : World} {B e s n : Nat} {v : Value} {xs : List Value} (h : w.ownsRow B e s v n xs) (hk : ∀ g, v.ownBlock = some g → w'.heap[g]? = w.heap[g]?) : w'.ownsRow B e s v n xs := by
  refine ⟨h.1, ?_⟩
  rcases h.2 with h2 | ⟨g, cap, cur, hv, hb, hg, r⟩
  · exact .inl h2
  · exact .inr ⟨g, cap, cur, hv, hb, (hk g (by rw [hv]; rfl)).trans hg, r⟩
theorem own_block {w : World} {B e s n g : Nat} {v : Value} {xs : List Value} (h : w.ownsRow B e s v n xs) (hg : v.ownBlock = some g) : ∃ cur, w.heap[g]? = some (.cells cur e (0, 0)) := by
  rcases h.2 with ⟨h2, _⟩ | ⟨g', cap, cur, hv, hb, hg', r⟩
  · rw [h2] at hg; cases hg
  · rw [hv] at hg
    simp only [Value.ownBlock, Option.some.injEq] at hg
    exact ⟨cur, hg ▸ hg'⟩
theorem GAt.kept {w w' : World} {B mb : Nat} {ns : List HP.Gn} (h : GAt w B mb ns) (hm : w'.heap[mb]? = w.heap[mb]?) (hn : ∀ n ∈ ns, w'.heap[n.blk]? = w.heap[n.blk]?) (hr : ∀ n ∈ ns, ∀ g, n.uv.ownBlock = some g → w'.heap[g]? = w.heap[g]?) : GAt w' B mb ns := by
  obtain ⟨L, h1, h2⟩ := h.map
  exact ⟨h.le, ⟨L, h1.blk hm, h2⟩, fun n hn' => ⟨(h.nd n hn').le, (hn n hn').trans (h.nd n hn').blk, own_kept (h.nd n hn').row (hr n hn')⟩, h.rows⟩
theorem GAt.mlt {w : World} {B mb : Nat} {ns : List HP.Gn} (h : GAt w B mb ns) : mb < w.heap.size := by
  obtain ⟨L, h1, _⟩ := h.map
  exact World.ownsMap.lt h1
theorem GAt.below {w w' : World} {B mb : Nat} {ns : List HP.Gn} (h : GAt w B mb ns) (hb : Below w.heap.size w w') : GAt w' B mb ns :=
  h.kept (hb.block _ h.mlt) (fun n hn => hb.block _ (lt_of_block (h.nd n hn).blk)) (fun n hn g hg => hb.block _ ((h.nd n hn).row.lt g hg).2)
theorem GAt.nil {w : World} {B mb : Nat} (h : MapAt w mb []) (hB : B ≤ mb) : GAt w B mb [] := ⟨hB, ⟨[], h, rfl, (fun n hn => by cases hn), (fun n hn => by cases hn)⟩, (fun n hn => by cases hn), (fun n hn => by cases hn)⟩
theorem GAt.find {ns : List HP.Gn} {S : List Ent} (hg : HP.GI S ns) {L : List (Bs × Value)} (h1 : ∀ n ∈ ns, (n.path.data.toList, ptrP n.blk) ∈ L) (h2 : ∀ x ∈ L, ∃ n ∈ ns, x = (n.path.data.toList, ptrP n.blk)) (p : ByteArray) :
    (∀ n ∈ ns, n.path = p → findK L p.data.toList = some (ptrP n.blk)) ∧ ((∀ n ∈ ns, n.path ≠ p) → findK L p.data.toList = none) := by
  refine ⟨fun n hn e => ?_, fun hno => ?_⟩
  · have hm := h1 n hn
    rw [e] at hm
    unfold findK
    cases hf : L.find? (fun e => e.1 == p.data.toList) with
    | none => exact absurd (List.find?_eq_none.1 hf _ hm) (by simp)
    | some x =>
      obtain ⟨m, hm', ex⟩ := h2 x (List.mem_of_find?_eq_some hf)
      have hx := List.find?_some hf
      have : m.path = p := by
        rw [ex] at hx
        exact WideShapes.bytes_inj (by simpa using hx)
      have hmn : m = n := hg.pd m hm' n hn (this.trans e.symm)
      rw [ex, hmn]; rfl
  · unfold findK
    rw [Option.map_eq_none_iff, List.find?_eq_none]
    intro x hx hxe
    obtain ⟨n, hn, ex⟩ := h2 x hx
    rw [ex] at hxe
    exact hno n hn (WideShapes.bytes_inj (by simpa using hxe))
theorem insK_mem {x y : Bs × Value} : ∀ {L : List (Bs × Value)}, y ∈ insK x L ↔ y = x ∨ y ∈ L
  | [] => by simp [insK]
  | z :: r => by
    have e2 : insK x (z :: r) = if bytesBefore x.1 z.1 = true then x :: z :: r else z :: insK x r := rfl
    rw [e2]
    split
    · exact List.mem_cons
    · rw [List.mem_cons, insK_mem, List.mem_cons]
      exact ⟨fun h => by rcases h with h | h | h <;> simp [h], fun h => by rcases h with h | h | h <;> simp [h]⟩
theorem look_raw {t e b : Nat} {L : List (Bs × Value)} {z : Value} {s : ByteArray} {w : World} (ht : Tryd.prog.underlying t = some (.map 9 e)) (hz : (zeroValue e).run Tryd.prog w = .ok z w) (h : MapAt w b L) (hs : s.size ≤ 1000000000) :
    (Instr.lookup t (.map (some b)) (.string s) false).run Tryd.prog w = .ok ((findK L s.data.toList).getD z) w := by
  have hkey : keyOf Tryd.prog 9 (.string s) = some (.string s.data.toList) := WideMaps.keyOf_string_mk Tryd.underlying9 (by unfold maxLen; omega)
  obtain ⟨v, ps, hrun, hv⟩ := World.ownsMap.lookup h keyed9 ht hz (zd := .held z) (zp := []) rfl hkey
  rw [atKey_mapD] at hv
  rw [hrun, rawR_inv hv]
theorem zero155 (w : World) : (zeroValue 65).run Tryd.prog w = .ok (.pointer none) w := by kernel_rfl
/-- What the function that goes through references sees. -/
structure CX (w : World) (F M R mb b : Nat) : Prop where
  f : w.heap[F]? = some (.cells #[.map (some mb)] 50 (0, 0))
  m : w.heap[M]? = some (.cells #[.map (some b)] 39 (0, 0))
  r : w.heap[R]? = some (.cells #[.func (.func 29) #[] #[.pointer (some ⟨F, 0, none⟩), .pointer (some ⟨M, 0, none⟩), .pointer (some ⟨R, 0, none⟩)]] 72 (0, 0))
theorem CX.below {w w' : World} {F M R mb b : Nat} (h : CX w F M R mb b) (hb : Below w.heap.size w w') : CX w' F M R mb b := ⟨(hb.block _ (lt_of_block h.f)).trans h.f, (hb.block _ (lt_of_block h.m)).trans h.m, (hb.block _ (lt_of_block h.r)).trans h.r⟩
structure RS (w0 w : World) (S : List Ent) (F M R mb b : Nat) (ns : List HP.Gn) : Prop where
  bel : Below w0.heap.size w0 w
  cx : CX w F M R mb b
  g : GAt w w0.heap.size mb ns
  gi : HP.GI S ns
theorem RS.below {w0 w w' : World} {S : List Ent} {F M R mb b : Nat} {ns : List HP.Gn} (h : RS w0 w S F M R mb b ns) (hb : Below w.heap.size w w') : RS w0 w' S F M R mb b ns := ⟨h.bel.trans (hb.mono h.bel.size), h.cx.below hb, h.g.below hb, h.gi⟩
/-- A new one: its block, and its place in the map. -/
theorem RS.add {w0 w w2 : World} {S : List Ent} {F M R mb b nb : Nat} {ns : List HP.Gn} {p : ByteArray} {L : List (Bs × Value)} (h : RS w0 w S F M R mb b ns) (hL1 : ∀ n ∈ ns, (n.path.data.toList, ptrP n.blk) ∈ L) (hL2 : ∀ x ∈ L, ∃ n ∈ ns, x = (n.path.data.toList, ptrP n.blk)) (hLl : L.length = ns.length)
    (hp : ∃ e ∈ S, e.path = p) (hno : ∀ n ∈ ns, n.path ≠ p) (hnb : w.heap[nb]? = some (.cells #[.string p, .int .i64 0, .slice none 0 0] 68 (0, 0))) (hle : w0.heap.size ≤ nb) (hfresh : ∀ n ∈ ns, n.blk ≠ nb)
    (hm : MapAt w2 mb (insK (p.data.toList, ptrP nb) L)) (hgr : w.grownBy w2 (some mb)) : RS w0 w2 S F M R mb b (⟨p, nb, [], [], .slice none 0 0⟩ :: ns) := by
  obtain ⟨L0, hM0, _⟩ := h.g.map
  have hmb : ∀ (k : Nat) (cs : Array Value) (t : TypeId) (fz : Nat × Nat), w.heap[k]? = some (Obj.cells cs t fz) → w2.heap[k]? = w.heap[k]? := fun k cs t fz hk => hgr.block k (lt_of_block hk) (fun e => by
    injection e with e
    obtain ⟨es, clock, hb, _⟩ := hM0
    rw [e, hb] at hk
    cases hk)
  refine ⟨?_, ⟨?_, ?_, ?_⟩, ⟨h.g.le, ⟨_, hm, ?_, ?_, ?_⟩, ?_, ?_⟩, h.gi.add hp hno hfresh⟩
  · exact h.bel.grown hgr h.bel.size (fun k hk => by injection hk with hk; rw [← hk]; exact h.g.le)
  · exact (hmb _ _ _ _ h.cx.f).trans h.cx.f
  · exact (hmb _ _ _ _ h.cx.m).trans h.cx.m
  · exact (hmb _ _ _ _ h.cx.r).trans h.cx.r
  · rw [insK_length, hLl]; rfl
  · intro n hn
    rcases List.mem_cons.1 hn with rfl | hn
    · exact insK_mem.2 (.inl rfl)
    · exact insK_mem.2 (.inr (hL1 n hn))
  · intro x hx
    rcases insK_mem.1 hx with rfl | hx
    · exact ⟨_, List.mem_cons_self, rfl⟩
    · obtain ⟨n, hn, e⟩ := hL2 x hx
      exact ⟨n, List.mem_cons_of_mem _ hn, e⟩
  · intro n hn
    rcases List.mem_cons.1 hn with rfl | hn
    · exact ⟨hle, (hmb _ _ _ _ hnb).trans hnb, World.ownsRow_nil _ _ _ _⟩
    · have hd := h.g.nd n hn
      refine ⟨hd.le, (hmb _ _ _ _ hd.blk).trans hd.blk, own_kept hd.row fun g hg => ?_⟩
      obtain ⟨cur, hc⟩ := own_block hd.row hg
      exact hmb _ _ _ _ hc
  · intro n hn n' hn' hne
    rcases List.mem_cons.1 hn with rfl | hn
    · exact .inl rfl
    · rcases List.mem_cons.1 hn' with rfl | hn'
      · cases hu : n.uv.ownBlock with
        | none => exact .inl rfl
        | some g => exact .inr (by simp [Value.ownBlock])
      · exact h.g.rows n hn n' hn' hne
/-- A reference is gone through: who wants whom, and how many. -/
theorem RS.step {w0 w w3 : World} {S : List Ent} {F M R mb b bk bw : Nat} {ns : List HP.Gn} {r : ByteArray} {v3 : Value} {k m : HP.Gn} (h : RS w0 w S F M R mb b ns) (hk : k ∈ ns) (hkb : k.blk = bk) (hkp : k.path = r) (hm : m ∈ ns) (hmb : m.blk = bw) (hkm : bk ≠ bw) (hml : m.done.length < 1000000)
    (ho : w3.ownsRow w0.heap.size 65 1 v3 (k.users.length + 1) (k.users.map ptrP ++ [ptrP bw])) (hgr : w.grownBy w3 k.uv.ownBlock) (hat : v3.ownBlock = k.uv.ownBlock ∨ ∃ g, v3.ownBlock = some g ∧ w.heap.size ≤ g) :
    RS w0 ((w3.setCell ⟨bk, 2, none⟩ v3).setCell ⟨bw, 1, none⟩ (.int .i64 ((m.done.length : Int) + 1))) S F M R mb b (ns.map (HP.stepN bk bw r v3)) := by
  obtain ⟨L, hM, hLl, hL1, hL2⟩ := h.g.map
  have hkd := h.g.nd k hk
  have hmd := h.g.nd m hm
  -- no block of another kind is the list's
  have hno : ∀ (x : Nat) (cs : Array Value) (t : TypeId) (fz : Nat × Nat), w.heap[x]? = some (Obj.cells cs t fz) → t ≠ 65 → w3.heap[x]? = w.heap[x]? := fun x cs t fz hx ht => hgr.block x (lt_of_block hx) (fun e => by
    obtain ⟨cur, hc⟩ := own_block hkd.row e.symm
    rw [hc] at hx
    injection hx with hx
    injection hx with _ hx _
    exact ht hx.symm)
  have hmap : w3.heap[mb]? = w.heap[mb]? := hgr.block mb h.g.mlt (fun e => by
    obtain ⟨cur, hc⟩ := own_block hkd.row e.symm
    obtain ⟨es, clock, hb, _⟩ := hM
    rw [hb] at hc
    cases hc)
  have k3 := (hno _ _ _ _ hkd.blk (by decide)).trans hkd.blk
  have m3 := (hno _ _ _ _ hmd.blk (by decide)).trans hmd.blk
  rw [hkb] at k3
  rw [hmb] at m3
  obtain ⟨W, hW⟩ : ∃ W, (w3.setCell ⟨bk, 2, none⟩ v3).setCell ⟨bw, 1, none⟩ (.int .i64 ((m.done.length : Int) + 1)) = W := ⟨_, rfl⟩
  have hfar : ∀ x, x ≠ bk → x ≠ bw → W.heap[x]? = w3.heap[x]? := fun x h1 h2 => by
    rw [← hW]; exact (Below.heap_setCell _ _ _ _ h2).trans (Below.heap_setCell _ _ _ _ h1)
  have hWk : W.heap[bk]? = some (.cells #[.string k.path, .int .i64 k.done.length, v3] 68 (0, 0)) := by
    rw [← hW]
    exact (Below.heap_setCell _ _ _ _ hkm).trans (set_blk k3 2 v3)
  have hWm : W.heap[bw]? = some (.cells #[.string m.path, .int .i64 ((m.done.length : Int) + 1), m.uv] 68 (0, 0)) := by
    rw [← hW]
    exact set_blk ((Below.heap_setCell w3 ⟨bk, 2, none⟩ v3 bw (Ne.symm hkm)).trans m3) 1 _
  rw [hW]
  have hcells : ∀ (x : Nat) (cs : Array Value) (t : TypeId) (fz : Nat × Nat), w.heap[x]? = some (Obj.cells cs t fz) → t ≠ 65 → t ≠ 68 → W.heap[x]? = w.heap[x]? := fun x cs t fz hx h1 h2 => by
    refine (hfar x (fun e => ?_) (fun e => ?_)).trans (hno x cs t fz hx h1)
    · rw [e, ← hkb, hkd.blk] at hx; injection hx with hx; injection hx with _ hx _; exact h2 hx.symm
    · rw [e, ← hmb, hmd.blk] at hx; injection hx with hx; injection hx with _ hx _; exact h2 hx.symm
  have hrowk : ∀ g : Nat, (∃ cur, w3.heap[g]? = some (Obj.cells cur 65 (0, 0))) → W.heap[g]? = w3.heap[g]? := fun g ⟨cur, hg⟩ => hfar g (fun e => by rw [e, k3] at hg; simp at hg) (fun e => by rw [e, m3] at hg; simp at hg)
  refine ⟨?_, ⟨?_, ?_, ?_⟩, ⟨h.g.le, ⟨L, hM.blk ?_, by rw [List.length_map]; exact hLl, ?_, ?_⟩, ?_, ?_⟩, h.gi.step hk hkb hkp hm hmb hml⟩
  · rw [← hW]
    exact ((h.bel.grown hgr h.bel.size (fun x hx => (hkd.row.lt x hx).1)).setCell (hkb ▸ hkd.le) _).setCell (hmb ▸ hmd.le) _
  · exact (hcells _ _ _ _ h.cx.f (by decide) (by decide)).trans h.cx.f
  · exact (hcells _ _ _ _ h.cx.m (by decide) (by decide)).trans h.cx.m
  · exact (hcells _ _ _ _ h.cx.r (by decide) (by decide)).trans h.cx.r
  · obtain ⟨es, clock, hb, _⟩ := hM
    refine (hfar mb (fun e => ?_) (fun e => ?_)).trans hmap
    · rw [e, ← hkb, hkd.blk] at hb; cases hb
    · rw [e, ← hmb, hmd.blk] at hb; cases hb
  · intro n hn
    obtain ⟨x, hx, rfl⟩ := List.mem_map.1 hn
    exact hL1 x hx
  · intro y hy
    obtain ⟨n, hn, e⟩ := hL2 y hy
    exact ⟨_, List.mem_map.2 ⟨n, hn, rfl⟩, e⟩
  · intro n hn
    obtain ⟨x, hx, rfl⟩ := List.mem_map.1 hn
    have hxd := h.g.nd x hx
    by_cases e1 : x.blk = bk
    · have ex : x = k := h.gi.bd x hx k hk (e1.trans hkb.symm)
      subst ex
      have e2 : x.blk ≠ bw := fun e => hkm (e1.symm.trans e)
      refine ⟨hxd.le, ?_, ?_⟩
      · show W.heap[x.blk]? = some (.cells #[.string x.path, .int .i64 (if x.blk = bw then x.done ++ [r] else x.done).length, if x.blk = bk then v3 else x.uv] 68 (0, 0))
        rw [if_neg e2, if_pos e1, e1]; exact hWk
      · show W.ownsRow w0.heap.size 65 1 (if x.blk = bk then v3 else x.uv) (if x.blk = bk then x.users ++ [bw] else x.users).length ((if x.blk = bk then x.users ++ [bw] else x.users).map ptrP)
        rw [if_pos e1, if_pos e1, List.length_append, List.length_singleton, List.map_append, List.map_singleton]
        exact own_kept ho fun g hg => hrowk g (own_block ho hg)
    · have hrow : W.ownsRow w0.heap.size 65 1 x.uv x.users.length (x.users.map ptrP) := by
        refine own_kept hxd.row fun g hg => ?_
        obtain ⟨cur, hc⟩ := own_block hxd.row hg
        have hgk : w3.heap[g]? = w.heap[g]? := hgr.block g (lt_of_block hc) (fun e => by
          rcases h.g.rows x hx k hk (fun e' => e1 (e'.trans hkb)) with h1 | h1
          · rw [h1] at hg; cases hg
          · exact h1 (hg.trans e))
        exact (hrowk g ⟨cur, hgk.trans hc⟩).trans hgk
      by_cases e2 : x.blk = bw
      · have ex : x = m := h.gi.bd x hx m hm (e2.trans hmb.symm)
        subst ex
        refine ⟨hxd.le, ?_, ?_⟩
        · show W.heap[x.blk]? = some (.cells #[.string x.path, .int .i64 (if x.blk = bw then x.done ++ [r] else x.done).length, if x.blk = bk then v3 else x.uv] 68 (0, 0))
          rw [if_pos e2, if_neg e1, e2, List.length_append, List.length_singleton]; exact hWm
        · show W.ownsRow w0.heap.size 65 1 (if x.blk = bk then v3 else x.uv) (if x.blk = bk then x.users ++ [bw] else x.users).length ((if x.blk = bk then x.users ++ [bw] else x.users).map ptrP)
          rw [if_neg e1, if_neg e1]; exact hrow
      · refine ⟨hxd.le, ?_, ?_⟩
        · show W.heap[x.blk]? = some (.cells #[.string x.path, .int .i64 (if x.blk = bw then x.done ++ [r] else x.done).length, if x.blk = bk then v3 else x.uv] 68 (0, 0))
          rw [if_neg e2, if_neg e1]
          exact (hfar _ e1 e2).trans ((hno _ _ _ _ hxd.blk (by decide)).trans hxd.blk)
        · show W.ownsRow w0.heap.size 65 1 (if x.blk = bk then v3 else x.uv) (if x.blk = bk then x.users ++ [bw] else x.users).length ((if x.blk = bk then x.users ++ [bw] else x.users).map ptrP)
          rw [if_neg e1, if_neg e1]; exact hrow
  · intro n hn n' hn' hne
    obtain ⟨x, hx, rfl⟩ := List.mem_map.1 hn
    obtain ⟨y, hy, rfl⟩ := List.mem_map.1 hn'
    have hne' : x.blk ≠ y.blk := hne
    show (if x.blk = bk then v3 else x.uv).ownBlock = none ∨ (if x.blk = bk then v3 else x.uv).ownBlock ≠ (if y.blk = bk then v3 else y.uv).ownBlock
    have old := h.g.rows x hx y hy hne'
    by_cases e1 : x.blk = bk
    · have ex : x = k := h.gi.bd x hx k hk (e1.trans hkb.symm)
      subst ex
      rw [if_pos e1, if_neg (fun e => hne' (e1.trans e.symm))]
      rcases hat with ha | ⟨g, ha, hg⟩
      · rw [ha]; exact old
      · refine .inr fun e => ?_
        have := ((h.g.nd y hy).row.lt g (e.symm.trans ha)).2
        omega
    · rw [if_neg e1]
      by_cases e2 : y.blk = bk
      · have ey : y = k := h.gi.bd y hy k hk (e2.trans hkb.symm)
        subst ey
        rw [if_pos e2]
        rcases hat with ha | ⟨g, ha, hg⟩
        · rw [ha]; exact old
        · cases hu : x.uv.ownBlock with
          | none => exact .inl rfl
          | some g' =>
            refine .inr fun e => ?_
            have := ((h.g.nd x hx).row.lt g' hu).2
            rw [ha] at e
            injection e with e
            omega
      · rw [if_neg e2]; exact old
end Go.Proofs.YticcbaapbnfmmaaDoor
namespace Go.Proofs.YticcbaapbnfmmaaDoor
open Go.RowKit Go.Maps

/-- What a store must be good for, so that references can be gone through. -/
structure ClosedS (S : List Ent) : Prop where
  ref : ∀ e ∈ S, ∀ r ∈ e.refs, ∃ f ∈ S, f.path = r
  few : S.length ≤ 10
  refs : ∀ e ∈ S, e.refs.length ≤ 1000000
  path : ∀ e ∈ S, e.path.size ≤ 1000000000
  rise : Rising S
def Alike (n n' : HP.Gn) : Prop := n'.path = n.path ∧ n'.blk = n.blk ∧ n'.done = n.done
def FullN (S : List Ent) (n : HP.Gn) : Prop := ∃ e ∈ S, e.path = n.path ∧ n.done = HP.nonself e
/-- What a call of it leaves. -/
structure Grow (S : List Ent) (p : ByteArray) (ns ns' : List HP.Gn) : Prop where
  old : ∀ n ∈ ns, ∃ n' ∈ ns', Alike n n'
  new : ∀ n' ∈ ns', (∃ n ∈ ns, Alike n n') ∨ (FullN S n' ∧ HP.Rch S [p] n'.path)
theorem mu_mono {S : List Ent} {l l' : List ByteArray} (h : ∀ x ∈ l, x ∈ l') : HP.mu S l' ≤ HP.mu S l := by
  refine List.countP_mono_left fun e _ he => ?_
  cases hc : inL l e.path with
  | false => rfl
  | true =>
    rw [HP.inL_iff.2 (h _ (HP.inL_iff.1 hc))] at he
    cases he
theorem built158 (s : ByteArray) : Tryd.prog.built 68 [(0, .string s)] = some #[.string s, .int .i64 0, .slice none 0 0] := by kernel_rfl
theorem field104 (s : ByteArray) (a : Option Addr) (n c : Nat) (w : World) : (Instr.field 59 (.agg #[.string s, .slice a n c]) 1).run Tryd.prog w = .ok (.slice a n c) w := by kernel_rfl
theorem Tryd.info65 : (Tryd.prog.info? 65).map (fun i => (i.zero, i.size, i.bytes)) = some (some (.pointer none), 1, 8) := by kernel_rfl
set_option maxRecDepth 20000 in
set_option maxHeartbeats 4000000 in
/-- It is found already. -/
theorem reach_has {w0 : World} {S : List Ent} {F M R mb b : Nat} {p : ByteArray} {ns : List HP.Gn} {w : World} (h : RS w0 w S F M R mb b ns) {n : HP.Gn} (hn : n ∈ ns) (hp : n.path = p) (hs : p.size ≤ 1000000000) :
    Calls Tryd.prog 29 #[.string p, .pointer (some ⟨F, 0, none⟩), .pointer (some ⟨M, 0, none⟩), .pointer (some ⟨R, 0, none⟩)] w fun e w' => e = .returned (.pointer (some ⟨n.blk, 0, none⟩)) ∧ w' = w := by
  obtain ⟨L, hL, _, hL1, hL2⟩ := h.g.map
  have hlook := look_raw Tryd.underlying50 (zero155 w) hL hs
  rw [(GAt.find h.gi hL1 hL2 p).1 n hn hp] at hlook
  simp only [Option.getD_some, ptrP] at hlook
  have cf : w.cell? ⟨F, 0, none⟩ = some (.map (some mb)) := by simp [World.cell?, h.cx.f]
  clear hL hL1 hL2 h
  go_enter Tryd.func29, Tryd.ntmps29
  go_wp2
  go_ret
  exact ⟨rfl, rfl⟩
/-- While its references are gone through. -/
structure Mid (S : List Ent) (p : ByteArray) (nb : Nat) (ns ns' : List HP.Gn) : Prop where
  old : ∀ n ∈ ns, ∃ n' ∈ ns', Alike n n'
  new : ∀ n' ∈ ns', (∃ n ∈ ns, Alike n n') ∨ n'.blk = nb ∨ (FullN S n' ∧ HP.Rch S [p] n'.path)
/-- A node is there already, or it is the one whose references are gone through, or it is whole. -/
theorem Mid.grow {S : List Ent} {p r : ByteArray} {nb : Nat} {ns ns1 ns2 : List HP.Gn} (h : Mid S p nb ns ns1) (hg : Grow S r ns1 ns2) (hr : HP.Rch S [p] r) : Mid S p nb ns ns2 := by
  have hrr : ∀ x, HP.Rch S [r] x → HP.Rch S [p] x := fun x hx => HP.Rch.least (fun y hy => by rw [List.mem_singleton.1 hy]; exact hr) (fun e he hq r' hr' => .ref hq he hr') hx
  refine ⟨fun n hn => ?_, fun n' hn' => ?_⟩
  · obtain ⟨n1, h1, e1, e2, e3⟩ := h.old n hn
    obtain ⟨n2, h2, f1, f2, f3⟩ := hg.old n1 h1
    exact ⟨n2, h2, f1.trans e1, f2.trans e2, f3.trans e3⟩
  · rcases hg.new n' hn' with ⟨n1, h1, f1, f2, f3⟩ | ⟨h1, h2⟩
    · rcases h.new n1 h1 with ⟨n, hn, e1, e2, e3⟩ | e | ⟨⟨e, he, e1, e2⟩, h3⟩
      · exact .inl ⟨n, hn, f1.trans e1, f2.trans e2, f3.trans e3⟩
      · exact .inr (.inl (f2.trans e))
      · exact .inr (.inr ⟨⟨e, he, e1.trans f1.symm, f3.trans e2⟩, f1 ▸ h3⟩)
    · exact .inr (.inr ⟨h1, hrr _ h2⟩)
theorem stepN_alike {bk bw : Nat} {r : ByteArray} {v : Value} {n : HP.Gn} (h : n.blk ≠ bw) : Alike n (HP.stepN bk bw r v n) := ⟨rfl, rfl, by unfold HP.stepN; simp [h]⟩
theorem Mid.step {S : List Ent} {p r : ByteArray} {nb bk : Nat} {v : Value} {ns ns1 : List HP.Gn} (h : Mid S p nb ns ns1) (hfr : ∀ n ∈ ns, n.blk ≠ nb) : Mid S p nb ns (ns1.map (HP.stepN bk nb r v)) := by
  refine ⟨fun n hn => ?_, fun n' hn' => ?_⟩
  · obtain ⟨n1, h1, e1, e2, e3⟩ := h.old n hn
    obtain ⟨f1, f2, f3⟩ := stepN_alike (bk := bk) (r := r) (v := v) (fun e => hfr n hn (e2.symm.trans e) : n1.blk ≠ nb)
    exact ⟨_, List.mem_map.2 ⟨n1, h1, rfl⟩, f1.trans e1, f2.trans e2, f3.trans e3⟩
  · obtain ⟨n1, h1, rfl⟩ := List.mem_map.1 hn'
    by_cases e : n1.blk = nb
    · exact .inr (.inl e)
    · obtain ⟨f1, f2, f3⟩ := stepN_alike (bk := bk) (r := r) (v := v) e
      rcases h.new n1 h1 with ⟨n, hn, e1, e2, e3⟩ | e' | ⟨⟨x, hx, e1, e2⟩, h3⟩
      · exact .inl ⟨n, hn, f1.trans e1, f2.trans e2, f3.trans e3⟩
      · exact absurd e' e
      · exact .inr (.inr ⟨⟨x, hx, e1.trans f1.symm, f3.trans e2⟩, f1 ▸ h3⟩)
def doneUp (e : Ent) (i : Nat) : List ByteArray := (e.refs.take i).filter fun r => !decide (r = e.path)
theorem doneUp_self {e : Ent} {i : Nat} (hi : i < e.refs.length) (h : e.refs[i] = e.path) : doneUp e (i + 1) = doneUp e i := by
  unfold doneUp
  rw [List.take_succ_eq_append_getElem hi, List.filter_append, List.filter_cons_of_neg (by simp [h]), List.filter_nil, List.append_nil]
theorem doneUp_more {e : Ent} {i : Nat} (hi : i < e.refs.length) (h : e.refs[i] ≠ e.path) : doneUp e (i + 1) = doneUp e i ++ [e.refs[i]] := by
  unfold doneUp
  rw [List.take_succ_eq_append_getElem hi, List.filter_append, List.filter_cons_of_pos (by simp [h]), List.filter_nil]
theorem doneUp_len (e : Ent) (i : Nat) : (doneUp e i).length ≤ i := Nat.le_trans (List.length_filter_le _ _) (List.length_take_le _ _)
theorem doneUp_all (e : Ent) : doneUp e e.refs.length = HP.nonself e := by unfold doneUp HP.nonself; rw [List.take_length]
theorem node_kept {w w8 : World} {B n x : Nat} {v : Value} {xs : List Value} {cs : Array Value} (hr : w.ownsRow B 65 1 v n xs) (hg : w.grownBy w8 v.ownBlock) (hb : w.heap[x]? = some (.cells cs 68 (0, 0))) : w8.heap[x]? = some (.cells cs 68 (0, 0)) :=
  (hg.block x (lt_of_block hb) (fun e => by
    obtain ⟨cur, hc⟩ := own_block hr e.symm
    rw [hb] at hc
    simp at hc)).trans hb
set_option maxRecDepth 20000 in
set_option maxHeartbeats 8000000 in
theorem reach_any {w0 : World} {S : List Ent} {F M R mb b : Nat} (hPS : PSt w0 b S) (hC : ClosedS S) : ∀ (k : Nat) (p : ByteArray) (ns : List HP.Gn) (w : World), HP.mu S (HP.paths ns) ≤ k → RS w0 w S F M R mb b ns → (∃ e ∈ S, e.path = p) →
    Calls Tryd.prog 29 #[.string p, .pointer (some ⟨F, 0, none⟩), .pointer (some ⟨M, 0, none⟩), .pointer (some ⟨R, 0, none⟩)] w fun e w' => ∃ ns' n, e = .returned (.pointer (some ⟨n.blk, 0, none⟩)) ∧ RS w0 w' S F M R mb b ns' ∧ n ∈ ns' ∧ n.path = p ∧ Grow S p ns ns' := by
  intro k
  induction k with
  | zero =>
    intro p ns w hmu h hp
    have hps : p.size ≤ 1000000000 := by obtain ⟨e, he, rfl⟩ := hp; exact hC.path e he
    by_cases hfound : ∃ n ∈ ns, n.path = p
    · obtain ⟨n, hn, hnp⟩ := hfound
      refine (reach_has h hn hnp hps).mono ?_
      rintro e w' ⟨rfl, rfl⟩
      exact ⟨ns, n, rfl, h, hn, hnp, ⟨fun n hn => ⟨n, hn, rfl, rfl, rfl⟩, fun n hn => .inl ⟨n, hn, rfl, rfl, rfl⟩⟩⟩
    · have := HP.mu_cons (S := S) (ns := ns) hp (fun n hn e => hfound ⟨n, hn, e⟩)
      omega
  | succ k ih =>
    intro p ns w hmu h hp
    have hps : p.size ≤ 1000000000 := by obtain ⟨e, he, rfl⟩ := hp; exact hC.path e he
    by_cases hfound : ∃ n ∈ ns, n.path = p
    · obtain ⟨n, hn, hnp⟩ := hfound
      refine (reach_has h hn hnp hps).mono ?_
      rintro e w' ⟨rfl, rfl⟩
      exact ⟨ns, n, rfl, h, hn, hnp, ⟨fun n hn => ⟨n, hn, rfl, rfl, rfl⟩, fun n hn => .inl ⟨n, hn, rfl, rfl, rfl⟩⟩⟩
    · have hno : ∀ n ∈ ns, n.path ≠ p := fun n hn e => hfound ⟨n, hn, e⟩
      obtain ⟨L, hL, hLl, hL1, hL2⟩ := h.g.map
      have hnone := (GAt.find h.gi hL1 hL2 p).2 hno
      have hlook := look_raw Tryd.underlying50 (zero155 w) hL hps
      rw [hnone] at hlook
      simp only [Option.getD_none] at hlook
      have cf : w.cell? ⟨F, 0, none⟩ = some (.map (some mb)) := by simp [World.cell?, h.cx.f]
      have cC := hide (Clone_any p w hps)
      have HL := hide (And.intro hL (And.intro hLl (And.intro hL1 hL2)))
      have H := hide h
      have IH := hide ih
      have HP' := hide hp
      have HPS := hide hPS
      have HC := hide hC
      have hbt := built158 p
      clear hL hL1 hL2 h hLl ih hp hPS hC hfound
      go_enter Tryd.func29, Tryd.ntmps29
      go_wp2_with fail
      refine cC.out.mono ?_
      rintro e w1 ⟨rfl, hb1⟩
      clear hlook cf cC
      go_wp2_with fail
      have hkey : keyOf Tryd.prog 9 (.string p) = some (.string p.data.toList) := WideMaps.keyOf_string_mk Tryd.underlying9 (by unfold maxLen; omega)
      obtain ⟨W2, hW2⟩ : ∃ W, w1.alloc (.cells #[.string p, .int .i64 0, .slice none 0 0] 68) = W := ⟨_, rfl⟩
      have hb2 : Below w.heap.size w W2 := by rw [← hW2]; exact hb1.alloc hb1.size _
      have hnew : W2.heap[w1.heap.size]? = some (.cells #[.string p, .int .i64 0, .slice none 0 0] 68 (0, 0)) := by rw [← hW2]; exact block_new w1 _
      have h2 := H.out.below hb2
      have hM2 : MapAt W2.drew mb L := HL.out.1.blk (hb2.block mb H.out.g.mlt)
      have hlen : L.length < maxLen := by
        have := HL.out.2.1
        have := H.out.gi.len
        have := HC.out.few
        unfold maxLen; omega
      obtain ⟨w5, hrun5, hown5, hgrow5⟩ := World.ownsMap.update (val := .pointer (some ⟨w1.heap.size, 0, none⟩)) hM2 keyed9 Tryd.underlying50 hlen hkey rfl
      have hm5 : MapAt w5 mb (insK (p.data.toList, ptrP w1.heap.size) L) := by
        have := hown5
        rw [put_mapD L p.data.toList _ hnone] at this
        unfold MapAt
        rw [insK_length]
        exact this
      have H5 := hide ((h2.below ((Below.refl _ W2).drew)).add HL.out.2.2.1 HL.out.2.2.2 HL.out.2.1 HP'.out hno hnew (Nat.le_trans H.out.bel.size hb1.size) (fun n hn e => by
        have := lt_of_block (H.out.g.nd n hn).blk
        have := hb1.size
        omega) hm5 hgrow5)
      have cf : W2.cell? ⟨F, 0, none⟩ = some (.map (some mb)) := by simp [World.cell?, h2.cx.f]
      have cp : W2.cell? ⟨w1.heap.size, 0, none⟩ = some (.string p) := by simp [World.cell?, hnew]
      rw [hW2]
      clear hown5 hgrow5 hm5 hM2 h2 hnew hb2 hkey hlen hbt
      go_region
      have hns : ∃ E, findS S p = some E := by
        obtain ⟨e, he, hep⟩ := HP'.out
        cases hf : findS S p with
        | some E => exact ⟨E, rfl⟩
        | none =>
          have := List.find?_eq_none.1 hf e he
          rw [hep] at this
          simp at this
      obtain ⟨E, hE⟩ := hns
      have hES : E ∈ S := List.mem_of_find?_eq_some hE
      have hEp : E.path = p := WideShapes.bytes_inj (by simpa using List.find?_some hE)
      obtain ⟨L0, hM0, hEA⟩ := HPS.out
      have hfE := hEA.find p
      rw [hE] at hfE
      obtain ⟨ra, rn, rc, hfK, hSl⟩ := hfE
      have hM5 : MapAt w5 b L0 := hM0.blk (H5.out.bel.block b (World.ownsMap.lt hM0))
      have hlook2 := look_raw Tryd.underlying39 (zero103 w5) hM5 hps
      rw [hfK] at hlook2
      simp only [Option.getD_some] at hlook2
      obtain ⟨ra', rc', hsl, hcap, hcr⟩ := hSl
      injection hsl with e1 e2 e3
      subst e1 e2 e3
      have HCR := hide hcr
      have cm : w5.cell? ⟨M, 0, none⟩ = some (.map (some b)) := by simp [World.cell?, H5.out.cx.m]
      have hlen6 := HC.out.refs E hES
      clear hcr hM5 hfK hEA hM0 cf cp hrun5
      generalize packB E.nodes = PB at hlook2
      obtain ⟨nb, hnb⟩ : ∃ nb, w1.heap.size = nb := ⟨_, rfl⟩
      rw [hnb] at H5 ⊢
      have hfield := field104 PB ra E.refs.length rc
      have hfr : ∀ n ∈ ns, n.blk ≠ nb := fun n hn e => by
        have := lt_of_block (H.out.g.nd n hn).blk
        have := hb1.size
        omega
      have HFR := hide hfr
      have HNO := hide hno
      clear hfr hno hnone HL L0
      go_wp2
      go_loopw [9, 10, 32] (fun _ _ iv w6 => ∃ (i : Nat) (ns1 : List HP.Gn), i ≤ E.refs.length ∧ iv = .int .i64 i ∧ Hid (RS w0 w6 S F M R mb b ns1) ∧ Hid (∃ m ∈ ns1, m.path = p ∧ m.blk = nb ∧ m.done = doneUp E i) ∧ Hid (Mid S p nb ns ns1)) (fun _ _ iv _ => E.refs.length - (intOf iv).toNat)
      case atStart => exact ⟨0, _, by omega, rfl, H5, hide ⟨_, List.mem_cons_self, rfl, rfl, rfl⟩, hide ⟨fun n hn => ⟨n, List.mem_cons_of_mem _ hn, rfl, rfl, rfl⟩, fun n' hn' => by
        rcases List.mem_cons.1 hn' with rfl | hn'
        · exact .inr (.inl rfl)
        · exact .inl ⟨n', hn', rfl, rfl, rfl⟩⟩⟩
      case round =>
        obtain ⟨i, ns1, hi, rfl, H6, HM6, HMid⟩ := hrel
        by_cases hlt : i < E.refs.length
        · have hltz : (i : Int) < E.refs.length := by omega
          obtain ⟨rb, roff, rfl, hrb, hcells⟩ := HCR.out (by omega)
          have c0 := (H6.out.bel.cell (p := ⟨rb, roff + i, none⟩) hrb).trans (hcells i hlt)
          by_cases er : E.refs[i] = p
          · have hbq : (E.refs[i].toList == p.toList) = true := by rw [er]; simp
            have HM7 : Hid (∃ m ∈ ns1, m.path = p ∧ m.blk = nb ∧ m.done = doneUp E (i + 1)) := by rw [doneUp_self hlt (er.trans hEp.symm)]; exact HM6
            generalize E.refs[i] = z at c0 hbq
            clear hcells er HM6
            go_wp2
            go_roundw
            case rel => exact ⟨i + 1, ns1, by omega, by go_num, H6, HM7, HMid⟩
            case measure => simp [intOf]; omega
          · have hbq := eqB_false er
            have hrS : ∃ f ∈ S, f.path = E.refs[i] := HC.out.ref E hES _ (List.getElem_mem _)
            have hRch : HP.Rch S [p] E.refs[i] := .ref (e := E) (by rw [hEp]; exact .root (List.mem_singleton.2 rfl)) hES (List.getElem_mem _)
            have hmu1 : HP.mu S (HP.paths ns1) ≤ k := by
              have h1 := HP.mu_cons (S := S) (ns := ns) HP'.out HNO.out
              have h2 : HP.mu S (HP.paths ns1) ≤ HP.mu S (p :: HP.paths ns) := mu_mono fun x hx => by
                rcases List.mem_cons.1 hx with rfl | hx
                · obtain ⟨m, hm, hm1, _⟩ := HM6.out
                  exact List.mem_map.2 ⟨m, hm, hm1⟩
                · obtain ⟨n, hn, rfl⟩ := List.mem_map.1 hx
                  obtain ⟨n', hn', e1, _⟩ := HMid.out.old n hn
                  exact List.mem_map.2 ⟨n', hn', e1⟩
              omega
            have cR := hide (IH.out E.refs[i] ns1 wr hmu1 H6.out hrS)
            have HD := hide (doneUp_more hlt (by rw [hEp]; exact er))
            have cr : wr.cell? ⟨R, 0, none⟩ = some (.func (.func 29) #[] #[.pointer (some ⟨F, 0, none⟩), .pointer (some ⟨M, 0, none⟩), .pointer (some ⟨R, 0, none⟩)]) := by simp [World.cell?, H6.out.cx.r]
            have ER := hide er
            have HRCH := hide hRch
            have hdl := hide (doneUp_len E i)
            generalize E.refs[i] = z at c0 hbq cR HD ER HRCH
            clear hcells er hrS hRch hmu1
            go_wp2_with fail
            refine cR.out.mono ?_
            rintro e w7 ⟨ns2, n, rfl, h7, hn7, hnp7, hg7⟩
            obtain ⟨m, hm, hm1, hm2, hm3⟩ := HM6.out
            obtain ⟨m2, hmm, f1, f2, f3⟩ := hg7.old m hm
            have hkm : n.blk ≠ nb := fun e => by
              have : n = m2 := h7.gi.bd n hn7 m2 hmm (e.trans (f2.trans hm2).symm)
              exact ER.out (by rw [← hnp7, this, f1, hm1])
            have hnd := h7.g.nd n hn7
            have hmd := h7.g.nd m2 hmm
            obtain ⟨ua, uc, huv, _⟩ := own_sl hnd.row
            have hfew := h7.gi.few HC.out.few hn7
            have H8 := hide (h7.below ((Below.refl _ w7).alloc (Nat.le_refl _) (.cells #[.pointer (some ⟨nb, 0, none⟩)] 65)))
            have HROW := hide (huv ▸ hnd.row)
            have HUV := hide huv
            have hblk := hnd.blk
            rw [huv] at hblk
            have cu : w7.cell? ⟨n.blk, 2, none⟩ = some (.slice ua n.users.length uc) := by simp [World.cell?, hblk]
            have HNB := hide (block_keep (.cells #[.pointer (some ⟨nb, 0, none⟩)] 65) hblk)
            have hmb : w7.heap[nb]? = some (.cells #[.string m2.path, .int .i64 m2.done.length, m2.uv] 68 (0, 0)) := by rw [← hm2, ← f2]; exact hmd.blk
            have HMB := hide (block_keep (.cells #[.pointer (some ⟨nb, 0, none⟩)] 65) hmb)
            have hbase : w0.heap.size ≤ w7.heap.size := h7.bel.size
            have hml : m2.done.length < 1000000 := by
              have := hdl.out
              rw [f3, hm3]; omega
            have HN7 := hide (And.intro hn7 (And.intro hnp7 hg7))
            have HM7 := hide (And.intro hmm (And.intro (f1.trans hm1) (And.intro (f2.trans hm2) (f3.trans hm3))))
            clear hnd hmd huv hblk hmb h7 hn7 hnp7 hg7 hm hmm hm1 hm2 hm3 f1 f2 f3 cR c0 hbq cr
            obtain ⟨i155, hi155, h0, h1, h2⟩ := info_parts Tryd.info65
            go_wp2_with (at_builtin; refine wpList_append_own_at _ rfl (.tmp 46) (.tmp 48) 66 rfl w0.heap.size 65 i155 (.pointer none) 1 8 Tryd.underlying66 hi155 h0 h1 h2 rfl (by decide) (.slice ua n.users.length uc) n.users.length (n.users.map ptrP) rfl (HROW.out.alloc _) ⟨w7.heap.size, 0, none⟩ 1 1 [.pointer (some ⟨nb, 0, none⟩)] rfl rfl (cell_one_new _ _ _) (fun x hx => by simp at hx; subst hx; rfl) (by unfold maxLen; omega) (by omega) (by simp; omega) ?_; intro v3 w8 hown3 hgrow3 hnil3 hat3; obtain ⟨a3, c3, rfl, _⟩ := own_sl hown3; have hk8 := node_kept (HROW.out.alloc _) hgrow3 HNB.out; have hm8 := node_kept (HROW.out.alloc _) hgrow3 HMB.out; have cu2 : w8.cell? ⟨n.blk, 2, none⟩ = some (.slice ua n.users.length uc) := (by simp [World.cell?, hk8]); have fu2 : w8.frozen? ⟨n.blk, 2, none⟩ = false := (by simp [World.frozen?, hk8]); have cm2 : w8.cell? ⟨nb, 1, none⟩ = some (.int .i64 m2.done.length) := (by simp [World.cell?, hm8]); have fm2 : w8.frozen? ⟨nb, 1, none⟩ = false := (by simp [World.frozen?, hm8]); have HO8 := hide hown3; have HG8 := hide hgrow3; have HA8 := hide hat3; clear hown3 hgrow3 hnil3 hat3 hk8 hm8 cu)
            go_roundw
            case rel =>
              obtain ⟨hn7, hnp7, hg7⟩ := HN7.out
              obtain ⟨hmm, g1, g2, g3⟩ := HM7.out
              refine ⟨i + 1, ns2.map (HP.stepN n.blk nb z (.slice a3 (n.users.length + 1) c3)), by omega, by go_num, hide (H8.out.step hn7 rfl hnp7 hmm g2 hkm hml HO8.out (by rw [HUV.out]; exact HG8.out) ?_), hide ⟨_, List.mem_map.2 ⟨m2, hmm, rfl⟩, g1, g2, ?_⟩, hide ((HMid.out.grow hg7 HRCH.out).step HFR.out)⟩
              · rcases HA8.out with ha | ha
                · exact .inl (by rw [HUV.out]; exact ha)
                · exact .inr ⟨_, ha, Nat.le_refl _⟩
              · show (if m2.blk = nb then m2.done ++ [z] else m2.done) = _
                rw [if_pos g2, HD.out, g3]
            case measure => simp [intOf]; omega
        · obtain rfl : i = E.refs.length := by omega
          have hltz : ¬ ((E.refs.length : Nat) : Int) < E.refs.length := by omega
          go_wp2
          go_ret
          obtain ⟨m, hm, hm1, hm2, hm3⟩ := HM6.out
          refine ⟨ns1, m, by rw [hm2]; rfl, H6.out, hm, hm1, ⟨HMid.out.old, fun n' hn' => ?_⟩⟩
          rcases HMid.out.new n' hn' with h1 | h1 | h1
          · exact .inl h1
          · have : n' = m := H6.out.gi.bd n' hn' m hm (h1.trans hm2.symm)
            subst this
            exact .inr ⟨⟨E, hES, hEp.trans hm1.symm, by rw [hm3, doneUp_all]⟩, .root (by rw [hm1]; exact List.mem_singleton.2 rfl)⟩
          · exact .inr h1
end Go.Proofs.YticcbaapbnfmmaaDoor
namespace Go.Proofs.YticcbaapbnfmmaaDoor
open Go.RowKit Go.Maps

set_option maxRecDepth 20000 in
set_option maxHeartbeats 8000000 in
theorem reached_any (b : Nat) (S : List Ent) (vr : Value) (roots : List ByteArray) (w : World) (hPS : PSt w b S) (hC : ClosedS S) (hr : SliceS w vr roots) (hl : roots.length ≤ 1000000000) (hroots : ∀ r ∈ roots, ∃ e ∈ S, e.path = r) :
    Calls Tryd.prog 17 #[.map (some b), vr] w fun e w' => ∃ mb ns, e = .returned (.map (some mb)) ∧ GAt w' w.heap.size mb ns ∧ HP.GI S ns ∧ (∀ n ∈ ns, FullN S n ∧ HP.Rch S roots n.path) ∧ (∀ r ∈ roots, ∃ n ∈ ns, n.path = r) ∧ Below w.heap.size w w' := by
  have hmm := @run_makeMap Tryd.prog
  have hmf : ∀ (fn : Fn) (first cap : Array Value) (w : World), (Instr.makeFunc fn first cap).run Tryd.prog w = .ok (.func fn first cap) w := fun _ _ _ _ => rfl
  obtain ⟨ra, rc, rfl, _, hcr⟩ := hr
  have HCR := hide hcr
  have HPS := hide hPS
  have HC := hide hC
  have HR := hide hroots
  clear hcr hPS hC hroots
  have hz1 : (w.alloc (.cells #[.map (some b)] 39)).heap.size = w.heap.size + 1 := World.size_alloc _ _
  have hz2 : ((w.alloc (.cells #[.map (some b)] 39)).alloc (.map #[] 0)).heap.size = w.heap.size + 1 + 1 := by rw [World.size_alloc, hz1]
  have hz3 : (((w.alloc (.cells #[.map (some b)] 39)).alloc (.map #[] 0)).alloc (.cells #[.map (some (w.heap.size + 1))] 50)).heap.size = w.heap.size + 1 + 1 + 1 := by rw [World.size_alloc, hz2]
  have hR4 : ((((w.alloc (.cells #[.map (some b)] 39)).alloc (.map #[] 0)).alloc (.cells #[.map (some (w.heap.size + 1))] 50)).alloc (.cells #[.func (.func 29) #[] #[.pointer (some ⟨w.heap.size + 1 + 1, 0, none⟩), .pointer (some ⟨w.heap.size, 0, none⟩), .pointer (some ⟨w.heap.size + 1 + 1 + 1, 0, none⟩)]] 72)).heap[w.heap.size + 1 + 1 + 1]? = some (.cells #[.func (.func 29) #[] #[.pointer (some ⟨w.heap.size + 1 + 1, 0, none⟩), .pointer (some ⟨w.heap.size, 0, none⟩), .pointer (some ⟨w.heap.size + 1 + 1 + 1, 0, none⟩)]] 72 (0, 0)) := by rw [← hz3]; exact block_new _ _
  have hF4 : ((((w.alloc (.cells #[.map (some b)] 39)).alloc (.map #[] 0)).alloc (.cells #[.map (some (w.heap.size + 1))] 50)).alloc (.cells #[.func (.func 29) #[] #[.pointer (some ⟨w.heap.size + 1 + 1, 0, none⟩), .pointer (some ⟨w.heap.size, 0, none⟩), .pointer (some ⟨w.heap.size + 1 + 1 + 1, 0, none⟩)]] 72)).heap[w.heap.size + 1 + 1]? = some (.cells #[.map (some (w.heap.size + 1))] 50 (0, 0)) := by
    refine block_keep _ ?_
    rw [← hz2]; exact block_new _ _
  have hM4 : ((((w.alloc (.cells #[.map (some b)] 39)).alloc (.map #[] 0)).alloc (.cells #[.map (some (w.heap.size + 1))] 50)).alloc (.cells #[.func (.func 29) #[] #[.pointer (some ⟨w.heap.size + 1 + 1, 0, none⟩), .pointer (some ⟨w.heap.size, 0, none⟩), .pointer (some ⟨w.heap.size + 1 + 1 + 1, 0, none⟩)]] 72)).heap[w.heap.size]? = some (.cells #[.map (some b)] 39 (0, 0)) := block_keep _ (block_keep _ (block_keep _ (block_new _ _)))
  have hm0 : MapAt ((w.alloc (.cells #[.map (some b)] 39)).alloc (.map #[] 0)) (w.heap.size + 1) [] := by
    have := World.ownsMap_made (w.alloc (.cells #[.map (some b)] 39)) Tryd.prog 9 rawR
    rw [hz1] at this; exact this
  have hm4 : MapAt ((((w.alloc (.cells #[.map (some b)] 39)).alloc (.map #[] 0)).alloc (.cells #[.map (some (w.heap.size + 1))] 50)).alloc (.cells #[.func (.func 29) #[] #[.pointer (some ⟨w.heap.size + 1 + 1, 0, none⟩), .pointer (some ⟨w.heap.size, 0, none⟩), .pointer (some ⟨w.heap.size + 1 + 1 + 1, 0, none⟩)]] 72)) (w.heap.size + 1) [] := World.ownsMap.alloc (World.ownsMap.alloc hm0 _) _
  have hb4 : Below w.heap.size w ((((w.alloc (.cells #[.map (some b)] 39)).alloc (.map #[] 0)).alloc (.cells #[.map (some (w.heap.size + 1))] 50)).alloc (.cells #[.func (.func 29) #[] #[.pointer (some ⟨w.heap.size + 1 + 1, 0, none⟩), .pointer (some ⟨w.heap.size, 0, none⟩), .pointer (some ⟨w.heap.size + 1 + 1 + 1, 0, none⟩)]] 72)) := ((((Below.refl _ w).alloc (Nat.le_refl _) _).alloc (by rw [hz1]; omega) _).alloc (by rw [hz2]; omega) _).alloc (by rw [hz3]; omega) _
  have HRS : Hid (RS w ((((w.alloc (.cells #[.map (some b)] 39)).alloc (.map #[] 0)).alloc (.cells #[.map (some (w.heap.size + 1))] 50)).alloc (.cells #[.func (.func 29) #[] #[.pointer (some ⟨w.heap.size + 1 + 1, 0, none⟩), .pointer (some ⟨w.heap.size, 0, none⟩), .pointer (some ⟨w.heap.size + 1 + 1 + 1, 0, none⟩)]] 72)) S (w.heap.size + 1 + 1) w.heap.size (w.heap.size + 1 + 1 + 1) (w.heap.size + 1) b []) := hide ⟨hb4, ⟨hF4, hM4, hR4⟩, GAt.nil hm4 (by omega), HP.GI.nil S⟩
  have hst : ∀ (a : Addr) (w : World) (fn : Fn) (x y : Array Value), (store a (.func fn x y)).run Tryd.prog w = stored Tryd.prog w a (.func fn x y) .plain := fun _ _ _ _ _ => run_store _ _ _ _ _ rfl
  clear hm0 hm4 hb4 hR4 hF4 hM4 hz1 hz2 hz3
  go_enter Tryd.func17, Tryd.ntmps17
  go_wp2
  generalize ((((w.alloc (.cells #[.map (some b)] 39)).alloc (.map #[] 0)).alloc (.cells #[.map (some (w.heap.size + 1))] 50)).alloc (.cells #[.func (.func 29) #[] #[.pointer (some ⟨w.heap.size + 1 + 1, 0, none⟩), .pointer (some ⟨w.heap.size, 0, none⟩), .pointer (some ⟨w.heap.size + 1 + 1 + 1, 0, none⟩)]] 72)) = W5 at HRS ⊢
  generalize w.heap.size + 1 + 1 + 1 = R at HRS ⊢
  generalize w.heap.size + 1 + 1 = F at HRS ⊢
  generalize w.heap.size + 1 = mb at HRS ⊢
  go_loopw [8, 13] (fun _ iv w6 => ∃ (i : Nat) (ns : List HP.Gn), i ≤ roots.length ∧ iv = .int .i64 i ∧ Hid (RS w w6 S F w.heap.size R mb b ns) ∧ Hid (∀ n ∈ ns, FullN S n ∧ HP.Rch S roots n.path) ∧ Hid (∀ j (hj : j < roots.length), j < i → ∃ n ∈ ns, n.path = roots[j])) (fun _ iv _ => roots.length - (intOf iv).toNat)
  case atStart => exact ⟨0, [], by omega, rfl, HRS, hide (fun n hn => by cases hn), hide (fun j _ hj => by omega)⟩
  case round =>
    obtain ⟨i, ns, hi, rfl, H6, HN6, HJ6⟩ := hrel
    by_cases hlt : i < roots.length
    · have hltz : (i : Int) < roots.length := by omega
      obtain ⟨rb, roff, rfl, hrb, hcells⟩ := HCR.out (by omega)
      have c0 := (H6.out.bel.cell (p := ⟨rb, roff + i, none⟩) hrb).trans (hcells i hlt)
      have cr : wr.cell? ⟨R, 0, none⟩ = some (.func (.func 29) #[] #[.pointer (some ⟨F, 0, none⟩), .pointer (some ⟨w.heap.size, 0, none⟩), .pointer (some ⟨R, 0, none⟩)]) := by simp [World.cell?, H6.out.cx.r]
      have cR := hide (reach_any HPS.out HC.out _ roots[i] ns wr (Nat.le_refl _) H6.out (HR.out _ (List.getElem_mem _)))
      have HZ : Hid (roots[i] = roots[i]) := hide rfl
      have HZR := hide (List.getElem_mem hlt)
      obtain ⟨z, hz⟩ : ∃ z, roots[i] = z := ⟨_, rfl⟩
      have HZZ := hide hz
      rw [hz] at c0 cR HZR
      clear hcells HZ hz
      go_wp2_with fail
      refine cR.out.mono ?_
      rintro e w7 ⟨ns2, n, rfl, h7, hn7, hnp7, hg7⟩
      have H7 := hide h7
      have HN7 : Hid (∀ n ∈ ns2, FullN S n ∧ HP.Rch S roots n.path) := hide fun n' hn' => by
        rcases hg7.new n' hn' with ⟨n1, h1, f1, f2, f3⟩ | ⟨h1, h2⟩
        · obtain ⟨⟨e, he, e1, e2⟩, h3⟩ := HN6.out n1 h1
          exact ⟨⟨e, he, e1.trans f1.symm, f3.trans e2⟩, f1 ▸ h3⟩
        · exact ⟨h1, HP.Rch.least (fun y hy => by rw [List.mem_singleton.1 hy]; exact .root HZR.out) (fun e he hq r' hr' => .ref hq he hr') h2⟩
      have HJ7 : Hid (∀ j (hj : j < roots.length), j < i + 1 → ∃ n ∈ ns2, n.path = roots[j]) := hide fun j hj hji => by
        by_cases e : j = i
        · subst e
          exact ⟨n, hn7, hnp7.trans HZZ.out.symm⟩
        · obtain ⟨n1, h1, e1⟩ := HJ6.out j hj (by omega)
          obtain ⟨n2, h2, f1, _⟩ := hg7.old n1 h1
          exact ⟨n2, h2, f1.trans e1⟩
      clear h7 hn7 hnp7 hg7 cR c0 cr
      go_wp2
      go_roundw
      case rel => exact ⟨i + 1, ns2, by omega, by go_num, H7, HN7, HJ7⟩
      case measure => simp [intOf]; omega
    · obtain rfl : i = roots.length := by omega
      have hltz : ¬ ((roots.length : Nat) : Int) < roots.length := by omega
      have cf : wr.cell? ⟨F, 0, none⟩ = some (.map (some mb)) := by simp [World.cell?, H6.out.cx.f]
      go_wp2
      go_ret
      refine ⟨mb, rfl, ns, H6.out.g, H6.out.gi, HN6.out, fun r hr => ?_, H6.out.bel⟩
      obtain ⟨j, hj, rfl⟩ := List.getElem_of_mem hr
      exact HJ6.out j hj hj
end Go.Proofs.YticcbaapbnfmmaaDoor
