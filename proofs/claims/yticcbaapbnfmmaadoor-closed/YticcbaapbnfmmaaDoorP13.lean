import Derived.Test.YticcbaapbnfmmaaDoorP09
import Derived.Test.YticcbaapbnfmmaaDoorP11
import Derived.Test.YticcbaapbnfmmaaDoorP12
namespace Go.Proofs.YticcbaapbnfmmaaDoor
open Go.RowKit Go.Maps
namespace HP
theorem pigeon : ∀ (n : Nat) (f : Nat → Nat) (l : List Nat), (∀ i, i < n → f i ∈ l) → (∀ i k, i < n → k < n → f i = f k → i = k) → n ≤ l.length
  | 0, _, _, _, _ => Nat.zero_le _
  | n + 1, f, l, h, hi => by
    have h0 := h n (Nat.lt_succ_self n)
    have h1 := pigeon n f (l.erase (f n)) (fun i hin => (List.mem_erase_of_ne (fun e => by have := hi i n (by omega) (by omega) e; omega)).2 (h i (by omega))) (fun i k h1 h2 => hi i k (by omega) (by omega))
    rw [List.length_erase_of_mem h0] at h1
    have : 0 < l.length := List.length_pos_of_mem h0
    omega
/-- A queue that holds just those of some. -/
structure QI (ns : List Gn) (V : Gn → Prop) (f : Nat → Nat) (m : Nat) : Prop where
  inn : ∀ i, i < m → ∃ n ∈ ns, n.blk = f i ∧ V n
  out : ∀ n ∈ ns, V n → ∃ i, i < m ∧ f i = n.blk
  inj : ∀ i k, i < m → k < m → f i = f k → i = k
theorem QI.few {ns : List Gn} {V : Gn → Prop} {f : Nat → Nat} {m : Nat} (h : QI ns V f m) : m ≤ ns.length := by
  have := pigeon m f (ns.map (·.blk)) (fun i hi => by obtain ⟨n, hn, e, _⟩ := h.inn i hi; exact List.mem_map.2 ⟨n, hn, e⟩) h.inj
  rwa [List.length_map] at this
theorem QI.nil {ns : List Gn} {V : Gn → Prop} (h : ∀ n ∈ ns, ¬ V n) (f : Nat → Nat) : QI ns V f 0 := ⟨fun i hi => by omega, fun n hn hv => absurd hv (h n hn), fun i k hi => by omega⟩
theorem QI.congr {ns : List Gn} {V V' : Gn → Prop} {f : Nat → Nat} {m : Nat} (h : QI ns V f m) (hv : ∀ n ∈ ns, (V n ↔ V' n)) : QI ns V' f m :=
  ⟨fun i hi => by obtain ⟨n, hn, e, hV⟩ := h.inn i hi; exact ⟨n, hn, e, (hv n hn).1 hV⟩, fun n hn hV => h.out n hn ((hv n hn).2 hV), h.inj⟩
theorem QI.same {ns : List Gn} {V : Gn → Prop} {f g : Nat → Nat} {m : Nat} (h : QI ns V f m) (hs : Same m f g) : QI ns V g m := by
  refine ⟨fun i hi => ?_, fun n hn hV => ?_, hs.inj h.inj⟩
  · obtain ⟨k, hk, e⟩ := hs.ab i hi
    obtain ⟨n, hn, e2, hV⟩ := h.inn k hk
    exact ⟨n, hn, e2.trans e, hV⟩
  · obtain ⟨i, hi, e⟩ := h.out n hn hV
    obtain ⟨k, hk, e2⟩ := hs.ba i hi
    exact ⟨k, hk, e2.trans e⟩
theorem QI.ext {S : List Ent} {ns : List Gn} (hg : GI S ns) {V V' : Gn → Prop} {f : Nat → Nat} {m : Nat} (h : QI ns V f m) {n : Gn} (hn : n ∈ ns) (hno : ¬ V n) (hv : ∀ x ∈ ns, (V' x ↔ V x ∨ x.blk = n.blk)) : QI ns V' (ext f m n.blk) (m + 1) := by
  have hfr : ∀ k, k < m → f k ≠ n.blk := fun k hk e => by
    obtain ⟨n', hn', e', hV⟩ := h.inn k hk
    have : n' = n := hg.bd n' hn' n hn (e'.trans e)
    exact hno (this ▸ hV)
  refine ⟨fun i hi => ?_, fun x hx hV => ?_, fun i k hi hk e => ?_⟩
  · by_cases e : i = m
    · subst e
      exact ⟨n, hn, (ext_n _ _ _).symm, (hv n hn).2 (.inr rfl)⟩
    · obtain ⟨x, hx, e2, hV⟩ := h.inn i (by omega)
      exact ⟨x, hx, by rw [ext_o _ e]; exact e2, (hv x hx).2 (.inl hV)⟩
  · rcases (hv x hx).1 hV with h1 | h1
    · obtain ⟨i, hi, e⟩ := h.out x hx h1
      exact ⟨i, by omega, by rw [ext_o _ (by omega)]; exact e⟩
    · exact ⟨m, by omega, by rw [ext_n]; exact h1.symm⟩
  · by_cases e1 : i = m <;> by_cases e2 : k = m
    · omega
    · subst e1
      rw [ext_n, ext_o _ e2] at e
      exact absurd e.symm (hfr k (by omega))
    · subst e2
      rw [ext_n, ext_o _ e1] at e
      exact absurd e (hfr i (by omega))
    · rw [ext_o _ e1, ext_o _ e2] at e
      exact h.inj i k (by omega) (by omega) e
theorem QI.drop {ns : List Gn} {V : Gn → Prop} {g : Nat → Nat} {m : Nat} (h : QI ns V g (m + 1)) : ∃ n ∈ ns, n.blk = g m ∧ V n ∧ QI ns (fun x => V x ∧ x.blk ≠ n.blk) g m := by
  obtain ⟨n, hn, e, hV⟩ := h.inn m (by omega)
  refine ⟨n, hn, e, hV, fun i hi => ?_, fun x hx hx' => ?_, fun i k hi hk => h.inj i k (by omega) (by omega)⟩
  · obtain ⟨x, hx, e2, hV2⟩ := h.inn i (by omega)
    refine ⟨x, hx, e2, hV2, fun e3 => ?_⟩
    have := h.inj i m (by omega) (by omega) (e2.symm.trans (e3.trans e))
    omega
  · obtain ⟨i, hi, e2⟩ := h.out x hx hx'.1
    refine ⟨i, ?_, e2⟩
    by_cases e3 : i = m
    · subst e3
      exact absurd (e2.symm.trans e.symm) hx'.2
    · omega
/-- How many of its references are not told. -/
def wantsOf (out : List ByteArray) (n : Gn) : Nat := n.done.countP fun r => !inL out r
theorem wants_nil (n : Gn) : wantsOf [] n = n.done.length := by
  unfold wantsOf
  rw [List.countP_eq_length]
  intro r _
  unfold inL; simp
theorem wants_told {out : List ByteArray} {p : ByteArray} (hp : inL out p = false) (n : Gn) : wantsOf out n = wantsOf (out ++ [p]) n + n.done.countP (fun r => decide (r = p)) := by
  unfold wantsOf
  generalize n.done = l
  induction l with
  | nil => rfl
  | cons r l ih =>
    simp only [List.countP_cons, ih, inL_app]
    by_cases e : r = p
    · subst e
      simp [hp]; omega
    · simp [e]; omega
theorem rise_uniq {S : List Ent} (hR : Rising S) {e e' : Ent} (h : e ∈ S) (h' : e' ∈ S) (hp : e.path = e'.path) : e = e' := by
  induction S with
  | nil => cases h
  | cons y S ih =>
    obtain ⟨h1, h2⟩ := List.pairwise_cons.1 hR
    rcases List.mem_cons.1 h with e1 | g <;> rcases List.mem_cons.1 h' with e2 | g'
    · rw [e1, e2]
    · have := h1 e' g'
      rw [← e1, hp, bl_irr] at this; cases this
    · have := h1 e g
      rw [← e2, hp, bl_irr] at this; cases this
    · exact ih h2 g g'
theorem ready_mono {out : List ByteArray} {e : Ent} (p : ByteArray) (h : readyB out e = true) : readyB (out ++ [p]) e = true := by
  unfold readyB at h ⊢
  rw [List.all_eq_true] at h ⊢
  intro r hr
  have := h r hr
  rw [Bool.or_eq_true] at this ⊢
  rcases this with h1 | h1
  · exact .inl h1
  · exact .inr (by rw [inL_app, h1]; rfl)
theorem OrdSt.told {P : ByteArray → Bool} {S : List Ent} (hR : Rising S) {out : List ByteArray} (h : OrdSt P S out) : ∀ e ∈ S, inL out e.path = true → readyB out e = true := by
  induction h with
  | nil => intro e _ h; unfold inL at h; simp at h
  | snoc _ hn ih =>
    intro e he h
    rw [inL_app, Bool.or_eq_true] at h
    refine ready_mono _ ?_
    rcases h with h | h
    · exact ih e he h
    · obtain ⟨h1, h2⟩ := next_mem hn
      have := rise_uniq hR he h1 (of_decide_eq_true h)
      subst this
      unfold condB at h2
      simp only [Bool.and_eq_true] at h2
      exact h2.2
theorem ready_wants {e : Ent} {n : Gn} (hd : n.done = nonself e) (out : List ByteArray) : readyB out e = true ↔ wantsOf out n = 0 := by
  unfold wantsOf readyB
  rw [hd, List.countP_eq_zero, List.all_eq_true]
  unfold nonself
  constructor
  · intro h r hr
    obtain ⟨h1, h2⟩ := List.mem_filter.1 hr
    have := h r h1
    rw [Bool.or_eq_true] at this
    rcases this with h3 | h3
    · rw [h3] at h2; cases h2
    · rw [h3]; simp
  · intro h r hr
    rw [Bool.or_eq_true]
    by_cases e1 : r = e.path
    · exact .inl (decide_eq_true e1)
    · have := h r (List.mem_filter.2 ⟨hr, by rw [decide_eq_false e1]; rfl⟩)
      cases hi : inL out r with
      | true => exact .inr rfl
      | false => rw [hi] at this; simp at this
end HP
/-- What is found, whole, over a store. -/
structure OC (S : List Ent) (ns : List HP.Gn) (P : ByteArray → Bool) : Prop where
  gi : HP.GI S ns
  full : ∀ n ∈ ns, FullN S n
  rise : Rising S
  pin : ∀ n ∈ ns, P n.path = true
  pn : ∀ e ∈ S, P e.path = true → ∃ n ∈ ns, n.path = e.path
/-- It waits for no other, and is not told. -/
def Vw (out : List ByteArray) (n : HP.Gn) : Prop := HP.wantsOf out n = 0 ∧ inL out n.path = false
theorem OC.ent {S : List Ent} {ns : List HP.Gn} {P : ByteArray → Bool} (h : OC S ns P) {n : HP.Gn} (hn : n ∈ ns) {e : Ent} (he : e ∈ S) (hp : e.path = n.path) : n.done = HP.nonself e := by
  obtain ⟨e', he', hp', hd⟩ := h.full n hn
  rw [HP.rise_uniq h.rise he he' (hp.trans hp'.symm)]
  exact hd
theorem OC.next {S : List Ent} {ns : List HP.Gn} {P : ByteArray → Bool} (h : OC S ns P) {out : List ByteArray} {n : HP.Gn} (hn : n ∈ ns) (hV : Vw out n) (hl : ∀ x ∈ ns, Vw out x → bl x.path.data.toList n.path.data.toList = false) : ∃ e, e.path = n.path ∧ HP.nextF P S out = some e := by
  obtain ⟨e, he, hp, hd⟩ := h.full n hn
  refine ⟨e, hp, HP.next_least h.rise he ?_ fun x hx hc => ?_⟩
  · unfold HP.condB
    rw [hp, h.pin n hn, hV.2, (HP.ready_wants hd out).2 hV.1]; rfl
  · unfold HP.condB at hc
    simp only [Bool.and_eq_true] at hc
    obtain ⟨n', hn', hp'⟩ := h.pn x hx hc.1.1
    have hd' := h.ent hn' hx hp'.symm
    have := hl n' hn' ⟨(HP.ready_wants hd' out).1 hc.2, by rw [hp']; simpa using hc.1.2⟩
    rw [hp, ← hp']; exact this
theorem OC.done {S : List Ent} {ns : List HP.Gn} {P : ByteArray → Bool} (h : OC S ns P) {out : List ByteArray} {f : Nat → Nat} (hq : HP.QI ns (Vw out) f 0) : HP.nextF P S out = none := by
  refine HP.next_none fun x hx => ?_
  cases hc : HP.condB P out x with
  | false => rfl
  | true =>
    unfold HP.condB at hc
    simp only [Bool.and_eq_true] at hc
    obtain ⟨n', hn', hp'⟩ := h.pn x hx hc.1.1
    have hd' := h.ent hn' hx hp'.symm
    obtain ⟨i, hi, _⟩ := hq.out n' hn' ⟨(HP.ready_wants hd' out).1 hc.2, by rw [hp']; simpa using hc.1.2⟩
    omega
/-- What it still waits for, when i users of n0 have been gone through. -/
def wi (out : List ByteArray) (n0 : HP.Gn) (i : Nat) (n : HP.Gn) : Nat := HP.wantsOf out n - (n0.users.take i).count n.blk
def Vi (out : List ByteArray) (n0 : HP.Gn) (i : Nat) (n : HP.Gn) : Prop := wi out n0 i n = 0 ∧ inL (out ++ [n0.path]) n.path = false
theorem wi_zero (out : List ByteArray) (n0 n : HP.Gn) : wi out n0 0 n = HP.wantsOf out n := by unfold wi; simp
theorem OC.bound {S : List Ent} {ns : List HP.Gn} {P : ByteArray → Bool} (h : OC S ns P) {out : List ByteArray} {n0 n : HP.Gn} (h0 : n0 ∈ ns) (hn : n ∈ ns) (hno : inL out n0.path = false) : HP.wantsOf out n = HP.wantsOf (out ++ [n0.path]) n + n0.users.count n.blk := by
  rw [h.gi.cnt n0 h0 n hn]
  exact HP.wants_told hno n
theorem OC.wi_end {S : List Ent} {ns : List HP.Gn} {P : ByteArray → Bool} (h : OC S ns P) {out : List ByteArray} {n0 n : HP.Gn} (h0 : n0 ∈ ns) (hn : n ∈ ns) (hno : inL out n0.path = false) : wi out n0 n0.users.length n = HP.wantsOf (out ++ [n0.path]) n := by
  unfold wi
  rw [List.take_length, h.bound h0 hn hno]; omega
theorem count_take (l : List Nat) (i b : Nat) (hi : i < l.length) : (l.take (i + 1)).count b = (l.take i).count b + if l[i] = b then 1 else 0 := by
  rw [List.take_succ_eq_append_getElem hi, List.count_append, List.count_singleton]
  simp
theorem count_take_le (l : List Nat) (i b : Nat) : (l.take i).count b ≤ l.count b := (List.take_sublist i l).count_le b
theorem OC.wi_self {S : List Ent} {ns : List HP.Gn} {P : ByteArray → Bool} (h : OC S ns P) {out : List ByteArray} {n0 n : HP.Gn} (h0 : n0 ∈ ns) (hn : n ∈ ns) (hno : inL out n0.path = false) {i : Nat} (hi : i < n0.users.length) (hb : n.blk = n0.users[i]) : wi out n0 i n = wi out n0 (i + 1) n + 1 := by
  have h1 := h.bound h0 hn hno
  have h2 := count_take n0.users i n.blk hi
  rw [if_pos hb.symm] at h2
  have h3 := count_take_le n0.users (i + 1) n.blk
  unfold wi
  omega
theorem wi_other {out : List ByteArray} {n0 n : HP.Gn} {i : Nat} (hi : i < n0.users.length) (hb : n.blk ≠ n0.users[i]) : wi out n0 (i + 1) n = wi out n0 i n := by
  unfold wi
  rw [count_take n0.users i n.blk hi, if_neg (Ne.symm hb)]; rfl
theorem OC.vi_start {S : List Ent} {ns : List HP.Gn} {P : ByteArray → Bool} (h : OC S ns P) {out : List ByteArray} {n0 : HP.Gn} (h0 : n0 ∈ ns) {f : Nat → Nat} {m : Nat} (hq : HP.QI ns (fun x => Vw out x ∧ x.blk ≠ n0.blk) f m) : HP.QI ns (Vi out n0 0) f m := by
  refine hq.congr fun n hn => ?_
  unfold Vi Vw
  rw [wi_zero, HP.inL_app, Bool.or_eq_false_iff]
  constructor
  · rintro ⟨⟨h1, h2⟩, h3⟩
    exact ⟨h1, h2, decide_eq_false fun e => h3 (by rw [h.gi.pd n hn n0 h0 e])⟩
  · rintro ⟨h1, h2, h3⟩
    exact ⟨⟨h1, h2⟩, fun e => of_decide_eq_false h3 (by rw [h.gi.bd n hn n0 h0 e])⟩
theorem OC.vi_end {S : List Ent} {ns : List HP.Gn} {P : ByteArray → Bool} (h : OC S ns P) {out : List ByteArray} {n0 : HP.Gn} (h0 : n0 ∈ ns) (hno : inL out n0.path = false) {f : Nat → Nat} {m : Nat} (hq : HP.QI ns (Vi out n0 n0.users.length) f m) : HP.QI ns (Vw (out ++ [n0.path])) f m := by
  refine hq.congr fun n hn => ?_
  unfold Vi Vw
  rw [h.wi_end h0 hn hno]
theorem OC.vi_stay {S : List Ent} {ns : List HP.Gn} {P : ByteArray → Bool} (h : OC S ns P) {out : List ByteArray} {n0 n : HP.Gn} (h0 : n0 ∈ ns) (hn : n ∈ ns) (hno : inL out n0.path = false) {i : Nat} (hi : i < n0.users.length) (hb : n.blk = n0.users[i]) (hw : wi out n0 (i + 1) n ≠ 0) {f : Nat → Nat} {m : Nat} (hq : HP.QI ns (Vi out n0 i) f m) : HP.QI ns (Vi out n0 (i + 1)) f m := by
  refine hq.congr fun x hx => ?_
  unfold Vi
  by_cases e : x.blk = n0.users[i]
  · have : x = n := h.gi.bd x hx n hn (e.trans hb.symm)
    subst this
    have := h.wi_self h0 hn hno hi hb
    constructor
    · rintro ⟨h1, _⟩; omega
    · rintro ⟨h1, _⟩; exact absurd h1 hw
  · rw [wi_other hi e]
theorem OC.vi_push {S : List Ent} {ns : List HP.Gn} {P : ByteArray → Bool} (h : OC S ns P) {out : List ByteArray} (ho : HP.OrdSt P S out) {n0 n : HP.Gn} (h0 : n0 ∈ ns) (hn : n ∈ ns) (hV0 : Vw out n0) {i : Nat} (hi : i < n0.users.length) (hb : n.blk = n0.users[i]) (hw : wi out n0 (i + 1) n = 0) {f : Nat → Nat} {m : Nat} (hq : HP.QI ns (Vi out n0 i) f m) : HP.QI ns (Vi out n0 (i + 1)) (HP.ext f m n.blk) (m + 1) := by
  have hs := h.wi_self h0 hn hV0.2 hi hb
  have hpos : 0 < HP.wantsOf out n := by unfold wi at hs; omega
  refine hq.ext h.gi hn (fun hV => by have := hV.1; omega) fun x hx => ?_
  by_cases e : x.blk = n0.users[i]
  · have : x = n := h.gi.bd x hx n hn (e.trans hb.symm)
    subst this
    refine ⟨fun _ => .inr rfl, fun _ => ⟨hw, ?_⟩⟩
    rw [HP.inL_app, Bool.or_eq_false_iff]
    constructor
    · cases hi : inL out x.path with
      | false => rfl
      | true =>
        obtain ⟨e', he', hp', hd⟩ := h.full x hx
        have := (HP.ready_wants hd out).1 (ho.told h.rise e' he' (by rw [hp']; exact hi))
        omega
    · refine decide_eq_false fun e2 => ?_
      have : x = n0 := h.gi.pd x hx n0 h0 e2
      subst this
      have := hV0.1
      omega
  · unfold Vi
    rw [wi_other hi e]
    exact ⟨fun hv => .inl hv, fun hv => by
      rcases hv with hv | hv
      · exact hv
      · exact absurd (hv.trans hb) e⟩
theorem OC.vw_nil {S : List Ent} {ns : List HP.Gn} {P : ByteArray → Bool} (_h : OC S ns P) {f : Nat → Nat} {m : Nat} {V : HP.Gn → Prop} (hv : ∀ n ∈ ns, (V n ↔ n.done.length = 0)) (hq : HP.QI ns V f m) : HP.QI ns (Vw []) f m := by
  refine hq.congr fun n hn => ?_
  unfold Vw
  rw [HP.wants_nil, hv n hn]
  exact ⟨fun h => ⟨h, by unfold inL; simp⟩, fun h => h.1⟩
/-- The key of a block. -/
def keyB (ns : List HP.Gn) (b : Nat) : ByteArray := ((ns.find? fun n => n.blk == b).map (·.path)).getD ⟨#[]⟩
theorem keyB_eq {S : List Ent} {ns : List HP.Gn} (hg : HP.GI S ns) {n : HP.Gn} (hn : n ∈ ns) : keyB ns n.blk = n.path := by
  unfold keyB
  cases hf : ns.find? fun x => x.blk == n.blk with
  | none => exact absurd (List.find?_eq_none.1 hf n hn) (by simp)
  | some x =>
    have h1 := List.mem_of_find?_eq_some hf
    have h2 := List.find?_some hf
    have : x = n := hg.bd x h1 n hn (by simpa using h2)
    subst this; rfl
theorem bl_less (a b : Bs) : bl a b = Op.bytesLess a b := rfl
theorem ltK_or (key : Nat → ByteArray) : HP.Or (ltK key) := by
  refine ⟨fun a b c h1 h2 => ?_, fun a b h => ?_⟩
  · unfold ltK at *
    rw [← bl_less] at h1 h2 ⊢
    cases hc : bl (key c).toList (key a).toList with
    | false => rfl
    | true =>
      rcases bl_tri (key a).toList (key b).toList with h | h | h
      · rw [bl_trans _ _ _ hc h] at h2; cases h2
      · rw [h, h2] at hc; cases hc
      · rw [h1] at h; cases h
  · unfold ltK at *
    rw [← bl_less] at h ⊢
    exact bl_asym _ _ h
end Go.Proofs.YticcbaapbnfmmaaDoor
namespace Go.Proofs.YticcbaapbnfmmaaDoor
open Go.RowKit Go.Maps

/-- Blocks of cells of one type lie on. -/
def KeepT (t : TypeId) (w w' : World) : Prop := ∀ (k : Nat) (cs : Array Value) (fz : Nat × Nat), w.heap[k]? = some (Obj.cells cs t fz) → w'.heap[k]? = w.heap[k]?
theorem KeepT.trans {t : TypeId} {w w1 w2 : World} (h : KeepT t w w1) (k : KeepT t w1 w2) : KeepT t w w2 := fun b cs fz hb => (k b cs fz ((h b cs fz hb).trans hb)).trans (h b cs fz hb)
theorem KeepT.below {t : TypeId} {w w' : World} (h : Below w.heap.size w w') : KeepT t w w' := fun k _ _ hk => h.block k (lt_of_block hk)
theorem cells_type {w : World} {k : Nat} {cs cs' : Array Value} {t t' : TypeId} {fz fz' : Nat × Nat} (h : w.heap[k]? = some (Obj.cells cs t fz)) (h' : w.heap[k]? = some (Obj.cells cs' t' fz')) : t = t' := by
  rw [h] at h'
  injection h' with h'
  injection h'
theorem HK.keep {B q : Nat} {w w' : World} {t : TypeId} (h : HK B q w w') {cs : Array Value} {fz : Nat × Nat} (hq : w.heap[q]? = some (.cells cs 64 fz)) (h1 : t ≠ 64) (h2 : t ≠ 128) : KeepT t w w' :=
  fun k _ _ hk => h.blk k (lt_of_block hk) (fun e => by subst e; exact h1 (cells_type hk hq)) (fun _ _ hc => h2 (cells_type hk hc))
theorem own_keepT {w w' : World} {B s n : Nat} {e : TypeId} {v : Value} {xs : List Value} (h : w.ownsRow B e s v n xs) (hk : KeepT e w w') : w'.ownsRow B e s v n xs := own_kept h fun g hg => by
  obtain ⟨cur, hc⟩ := own_block h hg
  exact hk g cur (0, 0) hc
theorem grown_keepT {w w' : World} {t t' : TypeId} {B s n : Nat} {v : Value} {xs : List Value} (ho : w.ownsRow B t s v n xs) (hg : w.grownBy w' v.ownBlock) (hne : t' ≠ t) : KeepT t' w w' := fun k _ _ hk => hg.block k (lt_of_block hk) (fun e => by
  obtain ⟨cur, hc⟩ := own_block ho e.symm
  exact hne (cells_type hk hc))
theorem set_keepT {w : World} {b j : Nat} {t t' : TypeId} {cs : Array Value} {fz : Nat × Nat} {u : Value} (hb : w.heap[b]? = some (.cells cs t fz)) (hne : t' ≠ t) : KeepT t' w (w.setCell ⟨b, j, none⟩ u) := fun k _ _ hk => Below.heap_setCell _ _ _ _ (fun e => by
  subst e
  exact hne (cells_type hk hb))
theorem alloc_keepT (t : TypeId) (w : World) (o : Obj) : KeepT t w (w.alloc o) := KeepT.below ((Below.refl _ w).alloc (Nat.le_refl _) o)
theorem QAt.keep {w w' : World} {B q n : Nat} {f : Nat → Nat} (h : QAt w B q f n) (h1 : KeepT 64 w w') (h2 : KeepT 128 w w') : QAt w' B q f n := by
  obtain ⟨a, cap, hq, ho⟩ := h.at_
  exact ⟨h.le, a, cap, (h1 _ _ _ hq).trans hq, own_keepT ho h2⟩
/-- Those that wait, in memory: for how many. -/
structure WtAt (w : World) (B : Nat) (ns : List HP.Gn) (wt : HP.Gn → Nat) : Prop where
  le : ∀ n ∈ ns, B ≤ n.blk
  blk : ∀ n ∈ ns, w.heap[n.blk]? = some (.cells #[.string n.path, .int .i64 (wt n), n.uv] 68 (0, 0))
  row : ∀ n ∈ ns, w.ownsRow B 65 1 n.uv n.users.length (n.users.map ptrP)
theorem WtAt.keep {w w' : World} {B : Nat} {ns : List HP.Gn} {wt : HP.Gn → Nat} (h : WtAt w B ns wt) (h1 : KeepT 68 w w') (h2 : KeepT 65 w w') : WtAt w' B ns wt :=
  ⟨h.le, fun n hn => (h1 _ _ _ (h.blk n hn)).trans (h.blk n hn), fun n hn => own_keepT (h.row n hn) h2⟩
theorem WtAt.congr {w : World} {B : Nat} {ns : List HP.Gn} {wt wt' : HP.Gn → Nat} (h : WtAt w B ns wt) (hv : ∀ n ∈ ns, wt n = wt' n) : WtAt w B ns wt' :=
  ⟨h.le, fun n hn => by rw [← hv n hn]; exact h.blk n hn, h.row⟩
theorem WtAt.dec {S : List Ent} {ns : List HP.Gn} (hg : HP.GI S ns) {w : World} {B : Nat} {wt wt' : HP.Gn → Nat} (h : WtAt w B ns wt) {n : HP.Gn} (hn : n ∈ ns) (ho : ∀ y ∈ ns, y.blk ≠ n.blk → wt' y = wt y) : WtAt (w.setCell ⟨n.blk, 1, none⟩ (.int .i64 (wt' n : Nat))) B ns wt' := by
  refine ⟨h.le, fun y hy => ?_, fun y hy => own_keepT (h.row y hy) (set_keepT (h.blk n hn) (by decide))⟩
  by_cases e : y.blk = n.blk
  · have : y = n := hg.bd y hy n hn e
    subst this
    exact set_blk (h.blk y hy) 1 _
  · rw [ho y hy e, Below.heap_setCell _ _ _ _ e]
    exact h.blk y hy
theorem GAt.wt {w : World} {B mb : Nat} {ns : List HP.Gn} (h : GAt w B mb ns) : WtAt w B ns (fun n => n.done.length) := ⟨fun n hn => (h.nd n hn).le, fun n hn => (h.nd n hn).blk, fun n hn => (h.nd n hn).row⟩
theorem WtAt.key {S : List Ent} {ns : List HP.Gn} (hg : HP.GI S ns) {w : World} {B m : Nat} {wt : HP.Gn → Nat} {V : HP.Gn → Prop} {f : Nat → Nat} (h : WtAt w B ns wt) (hq : HP.QI ns V f m) : KeyAt w (keyB ns) f m := fun i hi => by
  obtain ⟨n, hn, e, _⟩ := hq.inn i hi
  exact ⟨_, _, by rw [← e, keyB_eq hg hn]; exact h.blk n hn⟩
/-- The queue, while the order is told. -/
structure OQ (w0 w : World) (B q : Nat) (ns : List HP.Gn) (wt : HP.Gn → Nat) (V : HP.Gn → Prop) (f : Nat → Nat) (m : Nat) : Prop where
  bel : Below B w0 w
  q : QAt w B q f m
  hp : HP.IsHeap (ltK (keyB ns)) f m
  wt : WtAt w B ns wt
  qi : HP.QI ns V f m
theorem OQ.keep {w0 w w' : World} {B q m : Nat} {ns : List HP.Gn} {wt : HP.Gn → Nat} {V : HP.Gn → Prop} {f : Nat → Nat} (h : OQ w0 w B q ns wt V f m) (hb : Below B w w') (h1 : KeepT 64 w w') (h2 : KeepT 128 w w') (h3 : KeepT 68 w w') (h4 : KeepT 65 w w') : OQ w0 w' B q ns wt V f m :=
  ⟨h.bel.trans hb, h.q.keep h1 h2, h.hp, h.wt.keep h3 h4, h.qi⟩
theorem OQ.qi' {w0 w : World} {B q m : Nat} {ns : List HP.Gn} {wt : HP.Gn → Nat} {V V' : HP.Gn → Prop} {f : Nat → Nat} (h : OQ w0 w B q ns wt V f m) (hq : HP.QI ns V' f m) : OQ w0 w B q ns wt V' f m := ⟨h.bel, h.q, h.hp, h.wt, hq⟩
theorem OQ.wt' {w0 w : World} {B q m : Nat} {ns : List HP.Gn} {wt wt' : HP.Gn → Nat} {V : HP.Gn → Prop} {f : Nat → Nat} (h : OQ w0 w B q ns wt V f m) (hv : ∀ n ∈ ns, wt n = wt' n) : OQ w0 w B q ns wt' V f m := ⟨h.bel, h.q, h.hp, h.wt.congr hv, h.qi⟩
theorem OQ.dec {S : List Ent} {ns : List HP.Gn} (hg : HP.GI S ns) {w0 w : World} {B q m : Nat} {wt wt' : HP.Gn → Nat} {V : HP.Gn → Prop} {f : Nat → Nat} (h : OQ w0 w B q ns wt V f m) {n : HP.Gn} (hn : n ∈ ns) (ho : ∀ y ∈ ns, y.blk ≠ n.blk → wt' y = wt y) : OQ w0 (w.setCell ⟨n.blk, 1, none⟩ (.int .i64 (wt' n : Nat))) B q ns wt' V f m :=
  ⟨h.bel.setCell (h.wt.le n hn) _, h.q.keep (set_keepT (h.wt.blk n hn) (by decide)) (set_keepT (h.wt.blk n hn) (by decide)), h.hp, h.wt.dec hg hn ho, h.qi⟩
theorem OQ.block {w0 w : World} {B q m : Nat} {ns : List HP.Gn} {wt : HP.Gn → Nat} {V : HP.Gn → Prop} {f : Nat → Nat} (h : OQ w0 w B q ns wt V f m) : ∃ a cap, w.heap[q]? = some (.cells #[.slice a m cap] 64 (0, 0)) := by
  obtain ⟨a, cap, hq, _⟩ := h.q.at_
  exact ⟨a, cap, hq⟩
/-- One more in the queue. -/
theorem push_any {S : List Ent} {ns : List HP.Gn} (hg : HP.GI S ns) (hS : S.length ≤ 10) {w0 w : World} {B q m : Nat} {wt : HP.Gn → Nat} {V V' : HP.Gn → Prop} {f : Nat → Nat} (h : OQ w0 w B q ns wt V f m) (n : HP.Gn) (hq : HP.QI ns V' (HP.ext f m n.blk) (m + 1)) :
    Calls Tryd.prog 26 #[.iface 62 (.pointer (some ⟨q, 0, none⟩)), .iface 65 (.pointer (some ⟨n.blk, 0, none⟩))] w fun e w' => e = .returned (.tuple #[]) ∧ (∃ g, OQ w0 w' B q ns wt V' g (m + 1)) ∧ HK B q w w' := by
  have hf := hq.few
  have hl := hg.len
  obtain ⟨a, cap, hqb⟩ := h.block
  refine (heapPush_any B q m n.blk f (keyB ns) w h.q (by omega) (h.wt.key hg hq) h.hp (ltK_or _)).mono ?_
  rintro e w' ⟨rfl, g, hQ, hH, hs, hk⟩
  exact ⟨rfl, ⟨g, h.bel.trans hk.bel, hQ, hH, h.wt.keep (hk.keep hqb (by decide) (by decide)) (hk.keep hqb (by decide) (by decide)), hq.same hs⟩, hk⟩
/-- The least comes out. -/
theorem pop_any {S : List Ent} {ns : List HP.Gn} (hg : HP.GI S ns) (hS : S.length ≤ 10) {w0 w : World} {B q m : Nat} {wt : HP.Gn → Nat} {V : HP.Gn → Prop} {f : Nat → Nat} (h : OQ w0 w B q ns wt V f (m + 1)) :
    Calls Tryd.prog 28 #[.iface 62 (.pointer (some ⟨q, 0, none⟩))] w fun e w' => (∃ g n, e = .returned (.iface 65 (.pointer (some ⟨n.blk, 0, none⟩))) ∧ n ∈ ns ∧ V n ∧ (∀ x ∈ ns, V x → bl x.path.data.toList n.path.data.toList = false) ∧ OQ w0 w' B q ns wt (fun x => V x ∧ x.blk ≠ n.blk) g m) ∧ HK B q w w' := by
  have hf := h.qi.few
  have hl := hg.len
  obtain ⟨a, cap, hqb⟩ := h.block
  refine (heapPop_any B q m f (keyB ns) w h.q (by omega) (h.wt.key hg h.qi) h.hp (ltK_or _)).mono ?_
  rintro e w' ⟨g, rfl, hQ, hH, h0, hs, hk⟩
  obtain ⟨n, hn, hnb, hV, hq⟩ := (h.qi.same hs).drop
  refine ⟨⟨g, n, by rw [hnb], hn, hV, fun x hx hVx => ?_, h.bel.trans hk.bel, hQ, hH, h.wt.keep (hk.keep hqb (by decide) (by decide)) (hk.keep hqb (by decide) (by decide)), hq⟩, hk⟩
  obtain ⟨i, hi, hib⟩ := h.qi.out x hx hVx
  have := h.hp.root (ltK_or _) i hi
  unfold ltK at this
  rw [hib, ← h0, ← hnb, keyB_eq hg hx, keyB_eq hg hn, ByteArray.toList_eq, ByteArray.toList_eq] at this
  exact this
theorem ranges_blk {w w' : World} {b r n : Nat} {D : DataW Value} {left : Lit → Bool} {cnt : Nat} (h : w.ranges Tryd.prog 9 rawR b r n D left cnt) (hb : w'.heap[b]? = w.heap[b]?) (hr : w'.heap[r]? = w.heap[r]?) : w'.ranges Tryd.prog 9 rawR b r n D left cnt := by
  obtain ⟨es, clock, since, seen, c0, h1, h2, h3, h4, h5, h6⟩ := h
  exact ⟨es, clock, since, seen, c0, hb.trans h1, h2, h3, h4, hr.trans h5, h6⟩
theorem ranges_objs {w : World} {b r n : Nat} {D : DataW Value} {left : Lit → Bool} {cnt : Nat} (h : w.ranges Tryd.prog 9 rawR b r n D left cnt) : (∃ es clock, w.heap[b]? = some (.map es clock)) ∧ ∃ x y z u, w.heap[r]? = some (.mapIter x y z u) := by
  obtain ⟨es, clock, since, seen, c0, h1, h2, h3, h4, h5, h6⟩ := h
  exact ⟨⟨_, _, h1⟩, _, _, _, _, h5⟩
theorem HK.ranges {B q : Nat} {w w' : World} {b r n : Nat} {D : DataW Value} {left : Lit → Bool} {cnt : Nat} (hk : HK B q w w') {cs : Array Value} {fz : Nat × Nat} (hq : w.heap[q]? = some (.cells cs 64 fz)) (h : w.ranges Tryd.prog 9 rawR b r n D left cnt) : w'.ranges Tryd.prog 9 rawR b r n D left cnt := by
  obtain ⟨⟨es, clock, h1⟩, x, y, z, u, h2⟩ := ranges_objs h
  refine ranges_blk h (hk.blk b (lt_of_block h1) (fun e => ?_) (fun cur fz' hc => ?_)) (hk.blk r (lt_of_block h2) (fun e => ?_) (fun cur fz' hc => ?_))
  · subst e; rw [hq] at h1; cases h1
  · rw [hc] at h1; cases h1
  · subst e; rw [hq] at h2; cases h2
  · rw [hc] at h2; cases h2
theorem key9_inv (key : Value) (kl : Lit) (h : keyOf Tryd.prog 9 key = some kl) : ∃ x : ByteArray, key = .string x := by
  cases key <;> simp [keyOf, Tryd.underlying9, mapKey] at h
  exact ⟨_, rfl⟩
theorem raw_any (v : Value) (y : DataW Value × List MemPlace) (_ : rawR v = some y) : ∃ c, v = id c := ⟨v, rfl⟩
end Go.Proofs.YticcbaapbnfmmaaDoor
namespace Go.Proofs.YticcbaapbnfmmaaDoor
open Go.RowKit Go.Maps

def lenOf : Value → Nat
  | .slice _ n _ => n
  | _ => 0
theorem range_node {ns : List HP.Gn} {L : List (Bs × Value)} (hL2 : ∀ x ∈ L, ∃ n ∈ ns, x = (n.path.data.toList, ptrP n.blk)) {x : ByteArray} {c : Value} {kl : Lit} {y : DataW Value × List MemPlace} (hkey : keyOf Tryd.prog 9 (.string x) = some kl) (hv : rawR (id c) = some y) (hat : ∀ zd, (mapD L).atKey kl zd = y.1) :
    kl = .string x.data.toList ∧ ∃ n ∈ ns, n.path = x ∧ c = .pointer (some ⟨n.blk, 0, none⟩) := by
  have hk : kl = .string x.data.toList := by
    simp [keyOf, Tryd.underlying9, mapKey] at hkey
    exact hkey.2.symm
  subst hk
  refine ⟨rfl, ?_⟩
  unfold rawR at hv
  injection hv with hv
  subst hv
  have h1 : ∀ z, (findK L x.data.toList).getD z = c := fun z => by
    have := hat (.held z)
    rw [atKey_mapD] at this
    injection this
  cases hf : findK L x.data.toList with
  | none =>
    have a1 := h1 (.bool true)
    have a2 := h1 (.bool false)
    rw [hf] at a1 a2
    simp only [Option.getD_none] at a1 a2
    rw [← a1] at a2
    cases a2
  | some v =>
    have a1 := h1 (.bool true)
    rw [hf, Option.getD_some] at a1
    subst a1
    obtain ⟨n, hn, e⟩ := hL2 _ (findK_mem hf)
    injection e with e1 e2
    exact ⟨n, hn, (WideShapes.bytes_inj e1).symm, e2⟩
theorem iter_keepT {w w' : World} {R : Nat} (hg : w.grownBy w' (some R)) {x : Option Nat} {y : Nat} {z : Array Nat} {u : Nat} (hR : w.heap[R]? = some (.mapIter x y z u)) (t : TypeId) : KeepT t w w' := fun k _ _ hk => hg.block k (lt_of_block hk) (fun e => by
  injection e with e
  subst e
  rw [hR] at hk
  cases hk)
theorem none_keepT {w w' : World} (hg : w.grownBy w' none) (t : TypeId) : KeepT t w w' := fun k _ _ hk => hg.block k (lt_of_block hk) (fun e => by cases e)
/-- The queue at the start: none of those that wait for none has come. -/
theorem OQ.start {w w' : World} {B mb : Nat} {S : List Ent} {ns : List HP.Gn} {L : List (Bs × Value)} (hG : GAt w B mb ns) (hg : HP.GI S ns) (hL1 : ∀ n ∈ ns, (n.path.data.toList, ptrP n.blk) ∈ L) (hL2 : ∀ x ∈ L, ∃ n ∈ ns, x = (n.path.data.toList, ptrP n.blk)) (hB : B ≤ w.heap.size)
    (hgr : ((w.alloc (.cells #[] 128)).alloc (.cells #[.slice (some ⟨w.heap.size, 0, none⟩) 0 0] 64)).grownBy w' none) :
    OQ w w' B (w.heap.size + 1) ns (fun n => n.done.length) (fun n => n.done.length = 0 ∧ has (mapD L) (.string n.path.data.toList) = false) (fun _ => 0) 0 := by
  have hz : (w.alloc (.cells #[] 128)).heap.size = w.heap.size + 1 := World.size_alloc _ _
  have hb : Below w.heap.size w ((w.alloc (.cells #[] 128)).alloc (.cells #[.slice (some ⟨w.heap.size, 0, none⟩) 0 0] 64)) := ((Below.refl _ w).alloc (Nat.le_refl _) _).alloc (by rw [hz]; omega) _
  have hb' : Below w.heap.size w w' := hb.grown hgr hb.size (fun k hk => by cases hk)
  refine ⟨hb'.mono hB, ?_, fun i h0 h1 => by omega, hG.wt.keep (KeepT.below hb') (KeepT.below hb'), HP.QI.nil (fun n hn hV => ?_) _⟩
  · refine QAt.keep ⟨by omega, some ⟨w.heap.size, 0, none⟩, 0, ?_, rfl, .inr ⟨w.heap.size, 0, #[], rfl, hB, ?_, Nat.le_refl _, Nat.zero_le _, rfl, rfl⟩⟩ (none_keepT hgr _) (none_keepT hgr _)
    · rw [← hz]; exact block_new _ _
    · exact block_keep _ (block_new _ _)
  · have := hV.2
    rw [has_mapD, (GAt.find hg hL1 hL2 n.path).1 n hn rfl] at this
    cases this
/-- One is gone by. -/
theorem OQ.seen {w0 w : World} {B q : Nat} {S : List Ent} {ns : List HP.Gn} (hg : HP.GI S ns) {wt : HP.Gn → Nat} {left : Lit → Bool} {f : Nat → Nat} {m : Nat} (h : OQ w0 w B q ns wt (fun n => n.done.length = 0 ∧ left (.string n.path.data.toList) = false) f m) {n : HP.Gn} (hn : n ∈ ns) (hd : n.done.length ≠ 0) :
    HP.QI ns (fun x => x.done.length = 0 ∧ (left (.string x.path.data.toList) && !(Lit.string x.path.data.toList).sameKey (.string n.path.data.toList)) = false) f m := by
  refine h.qi.congr fun x hx => ?_
  rw [sameKey_str]
  by_cases e : x.path = n.path
  · have : x = n := hg.pd x hx n hn e
    subst this
    exact ⟨fun hv => absurd hv.1 hd, fun hv => absurd hv.1 hd⟩
  · have : (x.path.data.toList == n.path.data.toList) = false := beq_eq_false_iff_ne.2 (fun e' => e (WideShapes.bytes_inj e'))
    rw [this]; simp
theorem OQ.come {w0 w : World} {B q : Nat} {S : List Ent} {ns : List HP.Gn} (hg : HP.GI S ns) {wt : HP.Gn → Nat} {left : Lit → Bool} {f : Nat → Nat} {m : Nat} (h : OQ w0 w B q ns wt (fun n => n.done.length = 0 ∧ left (.string n.path.data.toList) = false) f m) {n : HP.Gn} (hn : n ∈ ns) (hd : n.done.length = 0) (hl : left (.string n.path.data.toList) = true) :
    HP.QI ns (fun x => x.done.length = 0 ∧ (left (.string x.path.data.toList) && !(Lit.string x.path.data.toList).sameKey (.string n.path.data.toList)) = false) (HP.ext f m n.blk) (m + 1) := by
  refine h.qi.ext hg hn (fun hv => by rw [hl] at hv; cases hv.2) fun x hx => ?_
  rw [sameKey_str]
  by_cases e : x.path = n.path
  · have : x = n := hg.pd x hx n hn e
    subst this
    exact ⟨fun _ => .inr rfl, fun _ => ⟨hd, by simp⟩⟩
  · have : (x.path.data.toList == n.path.data.toList) = false := beq_eq_false_iff_ne.2 (fun e' => e (WideShapes.bytes_inj e'))
    rw [this]
    simp only [Bool.not_false, Bool.and_true]
    exact ⟨fun hv => .inl hv, fun hv => by
      rcases hv with hv | hv
      · exact hv
      · exact absurd (by rw [hg.bd x hx n hn hv]) e⟩
theorem assert_wait (b : Nat) (w : World) : (Instr.typeAssert (.iface 65 (.pointer (some ⟨b, 0, none⟩))) 20 65 false).run Tryd.prog w = .ok (.pointer (some ⟨b, 0, none⟩)) w := by kernel_rfl

set_option maxRecDepth 20000 in
set_option maxHeartbeats 8000000 in
theorem inOrder_any (B mb : Nat) (S : List Ent) (ns : List HP.Gn) (P : ByteArray → Bool) (w : World) (hG : GAt w B mb ns) (hO : OC S ns P) (hB : B ≤ w.heap.size) (hS : S.length ≤ 10) :
    Calls Tryd.prog 16 #[.map (some mb)] w fun e w' => ∃ v out, e = .returned v ∧ w'.ownsRow B 9 1 v out.length (out.map Value.string) ∧ HP.Final P S out ∧ Below B w w' := by
  obtain ⟨i9, hi9, h90, h91, h92⟩ := info_parts Tryd.info9
  obtain ⟨L, hM, hLl, hL1, hL2⟩ := hG.map
  have HG := hide hG
  have HO := hide hO
  have HM : Hid (((w.alloc (.cells #[] 128)).alloc (.cells #[.slice (some ⟨w.heap.size, 0, none⟩) 0 0] 64)).ownsMap Tryd.prog 9 rawR mb L.length (mapD L)) := hide (World.ownsMap.alloc (World.ownsMap.alloc hM _) _)
  have HL1 := hide hL1
  have HL2 := hide hL2
  have HST : Hid (∀ w' : World, ((w.alloc (.cells #[] 128)).alloc (.cells #[.slice (some ⟨w.heap.size, 0, none⟩) 0 0] 64)).grownBy w' none → OQ w w' B (w.heap.size + 1) ns (fun n => n.done.length) (fun n => n.done.length = 0 ∧ has (mapD L) (.string n.path.data.toList) = false) (fun _ => 0) 0) := hide fun w' hg => OQ.start hG hO.gi hL1 hL2 hB hg
  clear hG hO hM hL1 hL2 hLl
  have ta := assert_wait
  have e2 : ((w.alloc (.cells #[] 128)).alloc (.cells #[.slice (some ⟨w.heap.size, 0, none⟩) 0 0] 64)).heap.size = w.heap.size + 1 + 1 := by simp
  go_enter Tryd.func16, Tryd.ntmps16
  go_wp2_with (first
    | (at_range; refine wpList_range_own _ rfl _ 50 rfl 9 65 keyed9 Tryd.underlying50 rawR mb L.length (mapD L) rfl HM.out ?_; intro w0 hrg0 hg0 hs0; rw [e2] at hrg0; have HQ0 := hide (HST.out w0 hg0); have HRG0 := hide hrg0; clear HST HM hg0 hs0 hrg0)
    | go_in)
  go_frame
  rw [e2]
  have hR : B ≤ w.heap.size + 1 + 1 := by omega
  generalize w.heap.size + 1 + 1 = R at HRG0 hR ⊢
  generalize w.heap.size + 1 = q at HQ0 ⊢
  go_loopw [5] (fun _ wr => ∃ (left : Lit → Bool) (cnt : Nat) (f : Nat → Nat) (m : Nat), Hid (wr.ranges Tryd.prog 9 rawR mb R L.length (mapD L) left cnt) ∧ Hid (OQ w wr B q ns (fun n => n.done.length) (fun n => n.done.length = 0 ∧ left (.string n.path.data.toList) = false) f m)) (fun _ wr => wr.rangeLeft mb R)
  case atStart => exact ⟨_, _, _, _, HRG0, HQ0⟩
  case round =>
    obtain ⟨left, cnt, f, m, HRG, HQ⟩ := hrel
    clear HQ0 HRG0
    go_wp2_with (first
      | (at_next; go_must (refine wpList_next_ranges _ rfl _ rfl 9 keyed9 rawR Value.string id key9_inv raw_any mb R L.length (mapD L) left cnt rfl HRG.out ?_ ?_))
      | go_in)
    · intro hc0 hl0
      have HQ1 : Hid (OQ w wr B q ns (HP.wantsOf []) (Vw []) f m) := hide ((HQ.out.wt' (fun n _ => (HP.wants_nil n).symm)).qi' (HO.out.vw_nil (fun n _ => ⟨fun h => h.1, fun h => ⟨h, hl0 _⟩⟩) HQ.out.qi))
      clear hc0 hl0 HQ HRG
      go_wp2
      go_loopw [6] (fun v w2 => ∃ (a : Option Addr) (c : Nat) (out : List ByteArray) (f : Nat → Nat) (m : Nat), v = .slice a out.length c ∧ Hid (w2.ownsRow B 9 1 (.slice a out.length c) out.length (out.map Value.string)) ∧ Hid (HP.OrdSt P S out) ∧ Hid (OQ w w2 B q ns (HP.wantsOf out) (Vw out) f m)) (fun v _ => S.length - lenOf v)
      case atStart => exact ⟨none, 0, [], f, m, rfl, hide (World.ownsRow_nil _ _ _ _), hide .nil, HQ1⟩
      case round =>
        obtain ⟨a, c, out, f, m, rfl, HOW, HOS, HQ⟩ := hrel
        clear HQ1
        obtain ⟨qa, qc, hqb⟩ := HQ.out.block
        have cq : wr.cell? ⟨q, 0, none⟩ = some (.slice qa m qc) := by simp [World.cell?, hqb]
        have HQB := hide hqb
        have cL := hide (qLen_any qa m qc wr)
        clear hqb
        cases m with
        | zero =>
          go_wp2_with fail
          refine cL.out.mono ?_
          rintro e w2 ⟨rfl, rfl⟩
          go_wp2
          go_ret
          exact ⟨_, out, rfl, HOW.out, ⟨HOS.out, HO.out.done HQ.out.qi⟩, HQ.out.bel⟩
        | succ m =>
          have hposz : (0 : Int) < ((m + 1 : Nat) : Int) := by omega
          have cP := hide (pop_any HO.out.gi hS HQ.out)
          go_wp2_with fail
          refine cL.out.mono ?_
          rintro e w2 ⟨rfl, rfl⟩
          go_wp2_with fail
          refine cP.out.mono ?_
          rintro e w3 ⟨⟨g, n, rfl, hn, hV, hleast, hQ3⟩, hk3⟩
          obtain ⟨E, hEp, hE⟩ := HO.out.next hn hV hleast
          have HOS3 : Hid (HP.OrdSt P S (out ++ [n.path])) := hide (hEp ▸ HP.OrdSt.snoc HOS.out hE)
          have HO3 := hide (own_keepT HOW.out (hk3.keep HQB.out (by decide) (by decide)))
          have HQ3 := hide hQ3
          have HN := hide hn
          have HV := hide hV
          have hsz3 : B ≤ w3.heap.size := Nat.le_trans hB hQ3.bel.size
          have hblk := hQ3.wt.blk n hn
          obtain ⟨ua, uc, huv, _⟩ := own_sl (hQ3.wt.row n hn)
          rw [huv] at hblk
          have HUV := hide huv
          have c0 : w3.cell? ⟨n.blk, 0, none⟩ = some (.string n.path) := by simp [World.cell?, hblk]
          have HBL := hide hblk
          have hout : out.length < S.length := by
            have := HOS3.out.len
            rw [List.length_append, List.length_singleton] at this
            omega
          clear hQ3 hk3 hn hV hleast hE hEp hblk huv cP cL cq HQ HOW HQB
          go_wp2_with (at_builtin; refine wpList_append_own _ rfl (.tmp 37) (.tmp 42) 23 rfl B 9 i9 (.string ⟨#[]⟩) 1 16 Tryd.underlying23 hi9 h90 h91 h92 rfl (by decide) _ _ _ rfl (HO3.out.alloc _) ⟨w3.heap.size, 0, none⟩ 1 1 [.string n.path] rfl rfl (cell_one_at _ _ _ _ rfl) (fun x hx => by simp at hx; subst hx; rfl) (by unfold maxLen; omega) (by omega) (by simp; omega) ?_; intro v4 w4 hown4 hgrow4 hnil4; obtain ⟨g4, cap4, rfl, _⟩ := own_form hown4 (by omega); have HK4 : Hid (∀ t, t ≠ 9 → KeepT t w3 w4) := hide (fun t ht => (alloc_keepT t w3 _).trans (grown_keepT (HO3.out.alloc _) hgrow4 ht)); have HQ4 := hide (HQ3.out.keep (((Below.refl B w3).alloc hsz3 _).grown hgrow4 (by simp; omega) (fun k hk => (HO3.out.lt k hk).1)) (HK4.out _ (by decide)) (HK4.out _ (by decide)) (HK4.out _ (by decide)) (HK4.out _ (by decide))); have HO4 := hide hown4; have hb4 := ((HK4.out 68 (by decide)) _ _ _ HBL.out).trans HBL.out; have c2 : w4.cell? ⟨n.blk, 2, none⟩ = some (.slice ua n.users.length uc) := (by simp [World.cell?, hb4]); clear hown4 hgrow4 hnil4 HK4 hb4)
          have hfew := HO.out.gi.few hS HN.out
          have HQ5 : Hid (OQ w w4 B q ns (wi out n 0) (Vi out n 0) g m) := hide ((HQ4.out.wt' (fun x _ => (wi_zero out n x).symm)).qi' (HO.out.vi_start HN.out HQ4.out.qi))
          clear HQ4 HQ3 HO3 HBL c0 c2
          go_loopw [49] (fun iv w5 => ∃ (i : Nat) (f : Nat → Nat) (m : Nat), i ≤ n.users.length ∧ iv = .int .i64 i ∧ Hid (OQ w w5 B q ns (wi out n i) (Vi out n i) f m) ∧ Hid (w5.ownsRow B 9 1 (.slice (some ⟨g4, 0, none⟩) (out.length + 1) cap4) (out.length + 1) (out.map Value.string ++ [.string n.path]))) (fun iv _ => n.users.length - (intOf iv).toNat)
          case atStart => exact ⟨0, g, m, by omega, rfl, HQ5, HO4⟩
          case round =>
            obtain ⟨i, f, m, hi, rfl, HQ, HOW⟩ := hrel
            clear HQ5 HO4
            by_cases hlt : i < n.users.length
            · have hltz : (i : Int) < n.users.length := by omega
              obtain ⟨n1, hn1, hb1⟩ := HO.out.gi.us n HN.out _ (List.getElem_mem hlt)
              have hself := HO.out.wi_self HN.out hn1 HV.out.2 hlt hb1
              have hrow := HQ.out.wt.row n HN.out
              rw [HUV.out] at hrow
              obtain ⟨ug, ucap, hua, _⟩ := own_form hrow (by omega)
              injection hua with hua _ hcc
              subst hua
              subst hcc
              have cu : wr.cell? ⟨ug, i, none⟩ = some (.pointer (some ⟨n1.blk, 0, none⟩)) := by
                rw [hrow.cellAt i (by omega), hb1]
                simp [ptrP, hlt]
              have hblk := HQ.out.wt.blk n1 hn1
              have HQ6 := hide (HQ.out.dec HO.out.gi hn1 (wt' := wi out n (i + 1)) (fun y hy hne => wi_other hlt (fun e => hne (e.trans hb1.symm))))
              have HX : Hid (n1 ∈ ns ∧ n1.blk = n.users[i]) := hide ⟨hn1, hb1⟩
              obtain ⟨k, hk⟩ : ∃ k, wi out n (i + 1) n1 = k := ⟨_, rfl⟩
              have hkb : k < 10000000 := by
                have h1 := HO.out.gi.dl n1 hn1
                have h2 : HP.wantsOf out n1 ≤ n1.done.length := List.countP_le_length
                have h3 : wi out n (i + 1) n1 ≤ HP.wantsOf out n1 := Nat.sub_le _ _
                omega
              have HKK := hide hk
              rw [hself, hk] at hblk
              rw [hk] at HQ6
              have c1 : wr.cell? ⟨n1.blk, 1, none⟩ = some (.int .i64 ((k + 1 : Nat) : Int)) := by simp [World.cell?, hblk]
              have f1 : wr.frozen? ⟨n1.blk, 1, none⟩ = false := by simp [World.frozen?, hblk]
              have hsub : ((k + 1 : Nat) : Int) - 1 = k := by omega
              clear hself hrow hblk hk hn1 hb1
              by_cases hk0 : k = 0
              · subst hk0
                have HK2 := hide (HO.out.vi_push HOS.out HN.out HX.out.1 HV.out hlt HX.out.2 HKK.out HQ.out.qi)
                have cP := hide (push_any HO.out.gi hS HQ6.out n1 HK2.out)
                obtain ⟨qa, qc, hqb⟩ := HQ6.out.block
                have HQB := hide hqb
                have HO6 := hide (own_keepT HOW.out (set_keepT (j := 1) (u := .int .i64 ((0 : Nat) : Int)) (HQ.out.wt.blk n1 HX.out.1) (by decide)))
                clear hqb HQ HOW HQ6 HK2
                simp only [Int.natCast_zero] at cP HO6 HQB
                go_wp2_with fail
                refine cP.out.mono ?_
                rintro e w7 ⟨rfl, ⟨g', hQ7⟩, hk7⟩
                have HQ7 := hide hQ7
                have HO7 := hide (own_keepT HO6.out (hk7.keep HQB.out (by decide) (by decide)))
                clear hQ7 hk7 cP cu c1 f1 HO6 HQB
                go_wp2
                go_roundw
                case rel => exact ⟨i + 1, g', m + 1, by omega, by go_num, HQ7, HO7⟩
                case measure => simp [intOf]; omega
              · have hkz : ((k : Int) == 0) = false := beq_eq_false_iff_ne.2 (by omega)
                have HQ7 := hide (HQ6.out.qi' (HO.out.vi_stay HN.out HX.out.1 HV.out.2 hlt HX.out.2 (by rw [HKK.out]; exact hk0) HQ.out.qi))
                have HO7 := hide (own_keepT HOW.out (set_keepT (j := 1) (u := .int .i64 (k : Int)) (HQ.out.wt.blk n1 HX.out.1) (by decide)))
                clear HQ HOW HQ6
                go_wp2
                go_roundw
                case rel => exact ⟨i + 1, f, m, by omega, by go_num, HQ7, HO7⟩
                case measure => simp [intOf]; omega
            · obtain rfl : i = n.users.length := by omega
              have hltz : ¬ ((n.users.length : Nat) : Int) < n.users.length := by omega
              have HQ7 := hide (HQ.out.wt' (wt' := HP.wantsOf (out ++ [n.path])) (fun x hx => HO.out.wi_end HN.out hx HV.out.2))
              have HQ8 := hide (HQ7.out.qi' (HO.out.vi_end HN.out HV.out.2 HQ7.out.qi))
              have HO8 : Hid (wr.ownsRow B 9 1 (.slice (some ⟨g4, 0, none⟩) (out ++ [n.path]).length cap4) (out ++ [n.path]).length ((out ++ [n.path]).map Value.string)) := hide (by rw [List.length_append, List.length_singleton, List.map_append, List.map_singleton]; exact HOW.out)
              clear HQ7 HQ HOW
              go_wp2
              go_roundw
              case rel => exact ⟨some ⟨g4, 0, none⟩, cap4, out ++ [n.path], f, m, by simp, HO8, HOS3, HQ8⟩
              case measure => simp [lenOf]; omega
    · intro x c kl y1 y2 w1 cnt1 hkey hlk hv hat hrg1 hlt hg1 hs1 hen
      obtain ⟨rfl, n, hn, hnp, rfl⟩ := range_node (y := (y1, y2)) HL2.out hkey hv hat
      subst hnp
      obtain ⟨_, ix, iy, iz, iu, hRb⟩ := ranges_objs HRG.out
      have HRG1 := hide hrg1
      have HQ1 : Hid (OQ w w1 B q ns (fun n => n.done.length) (fun n => n.done.length = 0 ∧ left (.string n.path.data.toList) = false) f m) := hide (HQ.out.keep ((Below.refl B wr).grown hg1 (Nat.le_trans hB HQ.out.bel.size) (fun k hk => by injection hk with hk; omega)) (iter_keepT hg1 hRb _) (iter_keepT hg1 hRb _) (iter_keepT hg1 hRb _) (iter_keepT hg1 hRb _))
      have HE := hide (And.intro hlt HRG.out.left_eq)
      have HN := hide hn
      have HLK := hide hlk
      have hblk := HQ1.out.wt.blk n hn
      have c1 : w1.cell? ⟨n.blk, 1, none⟩ = some (.int .i64 n.done.length) := by simp [World.cell?, hblk]
      clear HQ HRG hkey hv hat hrg1 hg1 hs1 hRb hn hlk hlt hblk
      by_cases hd : n.done.length = 0
      · have cP := hide (push_any HO.out.gi hS HQ1.out n (OQ.come HO.out.gi HQ1.out HN.out hd HLK.out))
        have hdz : ((n.done.length : Nat) : Int) = 0 := by omega
        rw [hdz] at c1
        obtain ⟨qa, qc, hqb⟩ := HQ1.out.block
        have HQB := hide hqb
        clear hqb hdz hd
        go_wp2_with fail
        refine cP.out.mono ?_
        rintro e w2 ⟨rfl, ⟨g, hQ2⟩, hk2⟩
        have HQ2 := hide hQ2
        have HRG2 := hide (hk2.ranges HQB.out HRG1.out)
        clear hQ2 hk2 cP c1 hen
        go_wp2
        go_roundw
        case rel => exact ⟨_, cnt1, g, m + 1, HRG2, HQ2⟩
        case measure => rw [HRG2.out.left_eq, HE.out.2]; exact HE.out.1
      · have hdz : ((n.done.length : Int) == 0) = false := beq_eq_false_iff_ne.2 (by omega)
        have HQ2 := hide (HQ1.out.qi' (OQ.seen HO.out.gi HQ1.out HN.out hd))
        clear hd
        go_wp2
        go_roundw
        case rel => exact ⟨_, cnt1, f, m, HRG1, HQ2⟩
        case measure => rw [HRG1.out.left_eq, HE.out.2]; exact HE.out.1
end Go.Proofs.YticcbaapbnfmmaaDoor
namespace Go.Proofs.YticcbaapbnfmmaaDoor
open Go.RowKit Go.Maps

/-- A store of the program's: the block that holds its map. -/
def NSt (w : World) (q b : Nat) (S : List Ent) : Prop := w.heap[q]? = some (.cells #[.map (some b)] 42 (0, 0)) ∧ PSt w b S
set_option maxRecDepth 20000 in
set_option maxHeartbeats 400000 in
theorem NewStore_any (w : World) : Calls Tryd.prog 8 #[] w fun e w' => e = .returned (.pointer (some ⟨w.heap.size + 1, 0, none⟩)) ∧ NSt w' (w.heap.size + 1) w.heap.size [] ∧ Below w.heap.size w w' := by
  have hmm := @run_makeMap Tryd.prog
  go_enter Tryd.func8, Tryd.ntmps8
  go_wp2
  go_ret
  have h0 : MapAt (w.alloc (.map #[] 0)) w.heap.size [] := World.ownsMap_made w Tryd.prog 9 rawR
  have hb := (Below.refl _ (w.alloc (.map #[] 0))).alloc (Nat.le_refl _) (.cells #[.map (some w.heap.size)] 42)
  refine ⟨rfl, ⟨?_, [], World.ownsMap.alloc h0 _, trivial⟩, ((Below.refl _ w).alloc (Nat.le_refl _) _).alloc (by simp) _⟩
  have := block_new (w.alloc (.map #[] 0)) (.cells #[.map (some w.heap.size)] 42)
  rwa [World.size_alloc] at this
set_option maxRecDepth 20000 in
set_option maxHeartbeats 400000 in
theorem entries_any (q b : Nat) (w : World) (h : w.heap[q]? = some (.cells #[.map (some b)] 42 (0, 0))) : Calls Tryd.prog 11 #[.pointer (some ⟨q, 0, none⟩)] w fun e w' => e = .returned (.map (some b)) ∧ w' = w := by
  have c0 : w.cell? ⟨q, 0, none⟩ = some (.map (some b)) := by simp [World.cell?, h]
  go_enter Tryd.func11, Tryd.ntmps11
  go_wp2
  go_ret
  exact ⟨rfl, rfl⟩
/-- The block that holds the map is no map. -/
theorem NSt.wrote {w w' : World} {q b : Nat} {S S' : List Ent} (h : NSt w q b S) (hW : Wrote b w w') (hP : PSt w' b S') : NSt w' q b S' := by
  refine ⟨?_, hP⟩
  have hne : q ≠ b := fun e => by
    obtain ⟨L, ⟨es, clock, hb, _⟩, _⟩ := h.2
    rw [← e, h.1] at hb
    cases hb
  exact (hW.1.blk q (lt_of_block h.1) hne).trans h.1
end Go.Proofs.YticcbaapbnfmmaaDoor
namespace Go.Proofs.YticcbaapbnfmmaaDoor
open Go.RowKit Go.Maps

theorem findS_some {S : List Ent} {p : ByteArray} {e : Ent} (h : findS S p = some e) : e ∈ S ∧ e.path = p := by
  unfold findS at h
  exact ⟨List.mem_of_find?_eq_some h, WideShapes.bytes_inj (by simpa using List.find?_some h)⟩
theorem findS_not {S : List Ent} {p : ByteArray} (h : (findS S p).isNone = false) : ∃ e ∈ S, e.path = p := by
  cases hf : findS S p with
  | none => rw [hf] at h; cases h
  | some e => exact ⟨e, findS_some hf⟩
/-- One of the roots is not there. -/
def lackR (S : List Ent) (roots : List ByteArray) : Bool := roots.any fun r => (findS S r).isNone
/-- What Closure tells. -/
def ClosR (S : List Ent) (roots : List ByteArray) (out : List ByteArray) : Prop := if lackR S roots = true then out = [] else HP.Final (HP.rchB S roots) S out
theorem ClosR.uniq {S : List Ent} {roots a b : List ByteArray} (ha : ClosR S roots a) (hb : ClosR S roots b) : a = b := by
  unfold ClosR at ha hb
  split at ha
  · rw [if_pos (by assumption)] at hb
    rw [ha, hb]
  · rw [if_neg (by assumption)] at hb
    exact ha.uniq hb
theorem OC.of {S : List Ent} {ns : List HP.Gn} {roots : List ByteArray} (hg : HP.GI S ns) (hR : Rising S) (h : ∀ n ∈ ns, FullN S n ∧ HP.Rch S roots n.path) (hr : ∀ r ∈ roots, ∃ n ∈ ns, n.path = r) : OC S ns (HP.rchB S roots) := by
  refine ⟨hg, fun n hn => (h n hn).1, hR, fun n hn => HP.rchB_iff.2 (h n hn).2, fun e _ hp => ?_⟩
  refine HP.Rch.least (Q := fun p => ∃ n ∈ ns, n.path = p) hr (fun e he hq r hr => ?_) (HP.rchB_iff.1 hp)
  obtain ⟨n, hn, hnp⟩ := hq
  by_cases er : r = e.path
  · exact ⟨n, hn, hnp.trans er.symm⟩
  · obtain ⟨e', he', hp', hd⟩ := (h n hn).1
    rw [HP.rise_uniq hR he' he (hp'.trans hnp)] at hd
    exact hg.dn n hn r (by rw [hd]; exact List.mem_filter.2 ⟨hr, by rw [decide_eq_false er]; rfl⟩)
theorem enters72 : ∀ args w, (callFunc 15 args).run Tryd.prog w = .ok (.enter 15 args) w := fun _ _ => by kernel_rfl

set_option maxRecDepth 20000 in
set_option maxHeartbeats 2000000 in
theorem Closure_any (b : Nat) (S : List Ent) (vr : Value) (roots : List ByteArray) (w : World) (hPS : PSt w b S) (hC : ClosedS S) (hr : SliceS w vr roots) (hl : roots.length ≤ 1000000) (hs : ∀ r ∈ roots, r.size ≤ 1000000000) :
    Calls Tryd.prog 12 #[.map (some b), vr] w fun e w' => ∃ v out, e = .returned (.tuple #[v, .int .i64 (if lackR S roots = true then 15 else 0)]) ∧ w'.ownsRow w.heap.size 9 1 v out.length (out.map Value.string) ∧ ClosR S roots out ∧ Below w.heap.size w w' := by
  have hmf : ∀ (fn : Fn) (first cap : Array Value) (w : World), (Instr.makeFunc fn first cap).run Tryd.prog w = .ok (.func fn first cap) w := fun _ _ _ _ => rfl
  have cF : Hid (Calls Tryd.prog 14 #[vr, .func (.func 15) #[.map (some b)] #[]] w fun e w' => e = .returned (.bool (lackR S roots)) ∧ Below w.heap.size w w') := hide (ContainsFunc_one vr roots (.map (some b)) 15 (fun r => (findS S r).isNone) w hr (by omega) enters72 (fun x hx w1 hb => by
    obtain ⟨L, hM, hE⟩ := hPS.below hb
    rw [← hE.none x]
    exact lacks_any b L x w1 hM hE.ents (hs x hx)))
  have HPS := hide hPS
  have HR := hide hr
  obtain ⟨ra, rc, rfl, _⟩ := hr
  clear hPS hs
  unfold ClosR
  cases hlk : lackR S roots with
  | true =>
    rw [hlk] at cF
    go_enter Tryd.func12, Tryd.ntmps12
    go_wp2_with fail
    refine cF.out.mono ?_
    rintro e w1 ⟨rfl, hb1⟩
    go_wp2
    go_ret2
    exact ⟨_, rfl, [], World.ownsRow_nil _ _ _ _, rfl, hb1⟩
  | false =>
    rw [hlk] at cF
    have HL : Hid (∀ r ∈ roots, ∃ e ∈ S, e.path = r) := hide fun r hr => by
      unfold lackR at hlk
      rw [List.any_eq_false] at hlk
      exact findS_not (Bool.eq_false_iff.2 (hlk r hr))
    have HC := hide hC
    clear hC hlk
    go_enter Tryd.func12, Tryd.ntmps12
    go_wp2_with fail
    refine cF.out.mono ?_
    rintro e w1 ⟨rfl, hb1⟩
    have HB1 := hide hb1
    have cR := hide (reached_any b S _ roots w1 (HPS.out.below hb1) HC.out (HR.out.below hb1) (by omega) HL.out)
    clear hb1 cF
    go_wp2_with fail
    refine cR.out.mono ?_
    rintro e w2 ⟨mb, ns, rfl, hG, hgi, hfull, hroots, hb2⟩
    have hO := OC.of hgi HC.out.rise hfull hroots
    have cO := hide (inOrder_any w1.heap.size mb S ns (HP.rchB S roots) w2 hG hO hb2.size HC.out.few)
    have HB2 := hide (HB1.out.trans (hb2.mono HB1.out.size))
    have hsz := HB1.out.size
    clear hG hgi hfull hroots hb2 hO cR
    go_wp2_with fail
    refine cO.out.mono ?_
    rintro e w3 ⟨v, out, rfl, hown, hF, hb3⟩
    have HB3 := hide (HB2.out.trans (hb3.mono hsz))
    have HOW := hide (own_base hown hsz)
    have HF := hide hF
    clear hown hF hb3 cO
    go_wp2
    go_ret2
    exact ⟨v, rfl, out, HOW.out, HF.out, HB3.out⟩
set_option maxRecDepth 20000 in
set_option maxHeartbeats 2000000 in
theorem narClosure_any (q b : Nat) (S : List Ent) (vr : Value) (roots : List ByteArray) (w : World) (h : NSt w q b S) (hC : ClosedS S) (hr : SliceS w vr roots) (hl : roots.length ≤ 1000000) (hs : ∀ r ∈ roots, r.size ≤ 1000000000) :
    Calls Tryd.prog 6 #[.pointer (some ⟨q, 0, none⟩), vr] w fun e w' => ∃ v out, e = .returned (.tuple #[v, .int .i64 (if lackR S roots = true then 15 else 0)]) ∧ w'.ownsRow w.heap.size 9 1 v out.length (out.map Value.string) ∧ ClosR S roots out ∧ Below w.heap.size w w' := by
  have cE := hide (entries_any q b w h.1)
  have cC := hide (Closure_any b S vr roots w h.2 hC hr hl hs)
  obtain ⟨ra, rc, rfl, _⟩ := hr
  generalize (if lackR S roots = true then (15 : Int) else 0) = z at cC ⊢
  clear h hC hs
  go_enter Tryd.func6, Tryd.ntmps6
  go_wp2_with fail
  refine cE.out.mono ?_
  rintro e w1 ⟨rfl, rfl⟩
  go_wp2_with fail
  refine cC.out.mono ?_
  rintro e w2 ⟨v, out, rfl, hown, hF, hb⟩
  have HR := hide (And.intro hown (And.intro hF hb))
  clear hown hF hb cC
  go_wp2
  go_ret2
  exact ⟨v, out, rfl, HR.out⟩
end Go.Proofs.YticcbaapbnfmmaaDoor
