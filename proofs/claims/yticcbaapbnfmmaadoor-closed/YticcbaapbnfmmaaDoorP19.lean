import Derived.Test.YticcbaapbnfmmaaDoorP15
import Derived.Test.YticcbaapbnfmmaaDoorP18
import Derived.Deep.CutBlock
namespace Go.Proofs.YticcbaapbnfmmaaDoor
open Go.RowKit Go.Maps

/-- Blocks with texts in them, of some kind, lie on. -/
def KF (P : Nat → Prop) (w w' : World) : Prop := w.heap.size ≤ w'.heap.size ∧ ∀ k off s, P k → w.cell? ⟨k, off, none⟩ = some (.string s) → w'.heap[k]? = w.heap[k]?
theorem cell_blk {w w' : World} {k off : Nat} (h : w'.heap[k]? = w.heap[k]?) : w'.cell? ⟨k, off, none⟩ = w.cell? ⟨k, off, none⟩ := by simp only [World.cell?, h]
theorem SliceS.kf {P : Nat → Prop} {w w' : World} {v : Value} {ss : List ByteArray} (h : SliceS w v ss) (hf : FootV P v) (hk : KF P w w') : SliceS w' v ss := by
  obtain ⟨a, c, rfl, h1, h2⟩ := h
  refine ⟨a, c, rfl, h1, fun hp => ?_⟩
  obtain ⟨b, off, rfl, h3, h4⟩ := h2 hp
  refine ⟨b, off, rfl, Nat.lt_of_lt_of_le h3 hk.1, fun j hj => ?_⟩
  rw [cell_blk (hk.2 b _ _ (hf _ _ _ rfl) (h4 j hj))]
  exact h4 j hj
theorem EntsAt.kf {P : Nat → Prop} {w w' : World} (hk : KF P w w') : ∀ {L : List (Bs × Value)} {S : List Ent}, EntsAt w L S → (∀ x ∈ L, Foot P x.2) → EntsAt w' L S
  | [], [], _, _ => trivial
  | [], _ :: _, h, _ => h.elim
  | _ :: _, [], h, _ => h.elim
  | x :: L, e :: S, h, hf => by
    obtain ⟨⟨h1, a, n, c, h2, h3⟩, h4⟩ := h
    exact ⟨⟨h1, a, n, c, h2, h3.kf (hf x List.mem_cons_self _ a n c h2) hk⟩, EntsAt.kf hk h4 fun y hy => hf y (List.mem_cons_of_mem _ hy)⟩
theorem NStF.kf {F : Nat → Prop} {w w' : World} {q b : Nat} {S : List Ent} (h : NStF F w q b S) (hk : KF (fun k => F k ∧ k < w.heap.size) w w') (hq : w'.heap[q]? = w.heap[q]?) (hb : w'.heap[b]? = w.heap[b]?) : NStF F w' q b S := by
  obtain ⟨h0, L, h1, h2, h3⟩ := h
  exact ⟨hq.trans h0, L, h1.blk hb, h2.kf hk h3, fun x hx => (h3 x hx).mono fun k h => ⟨h.1, Nat.lt_of_lt_of_le h.2 hk.1⟩⟩
/-- A row grows that is none of a store's. -/
theorem NStF.grown {F F' : Nat → Prop} {w w' : World} {q b : Nat} {S : List Ent} {row : Option Nat} (h : NStF F w q b S) (hg : w.grownBy w' row) (hrow : ∀ g, row = some g → ¬ F g ∧ g ≠ q ∧ g ≠ b) (hF : ∀ k, k < w.heap.size → F k → F' k) : NStF F' w' q b S := by
  obtain ⟨es, c, hb⟩ : ∃ es c, w.heap[b]? = some (.map es c) := by
    obtain ⟨_, L, ⟨es, clock, h1, _⟩, _⟩ := h
    exact ⟨es, clock, h1⟩
  have hbl : b < w.heap.size := (Array.getElem?_eq_some_iff.1 hb).1
  have h1 := h.kf (w' := w') ⟨hg.size, fun k off s hf _ => hg.block k hf.2 fun e => (hrow k e.symm).1 hf.1⟩ (hg.block q (lt_of_block h.1) fun e => (hrow q e.symm).2.1 rfl) (hg.block b hbl fun e => (hrow b e.symm).2.2 rfl)
  obtain ⟨h0, L, h2, h3, h4⟩ := h1
  obtain ⟨_, L', h2', h3', h4'⟩ := h
  refine ⟨h0, L', h2'.blk (hg.block b hbl fun e => (hrow b e.symm).2.2 rfl), h3'.kf ⟨hg.size, fun k off s hf _ => hg.block k hf.2 fun e => (hrow k e.symm).1 hf.1⟩ h4', fun x hx => (h4' x hx).mono fun k hk => ⟨hF k hk.2 hk.1, Nat.lt_of_lt_of_le hk.2 hg.size⟩⟩
end Go.Proofs.YticcbaapbnfmmaaDoor
namespace Go.Proofs.YticcbaapbnfmmaaDoor
open Go.RowKit Go.Maps

def fb (k : Nat) : Nat := 97 + (7 * k + 3) % 26
def nmK (k : Nat) : ByteArray := ⟨#[UInt8.ofNat (fb k), 45, 49]⟩
theorem nmK_list (k : Nat) : (nmK k).data.toList = [UInt8.ofNat (fb k), 45, 49] := rfl
theorem fb_lt (k : Nat) : 97 ≤ fb k ∧ fb k < 123 := by unfold fb; omega
theorem fb_byte (k : Nat) : (UInt8.ofNat (fb k)).toNat = fb k := by
  have := fb_lt k
  rw [UInt8.toNat_ofNat']
  omega
theorem fb_inj {j k : Nat} (hj : j < 11) (hk : k < 11) (h : fb j = fb k) : j = k := by unfold fb at h; omega
theorem nmK_inj {j k : Nat} (hj : j < 11) (hk : k < 11) (h : nmK j = nmK k) : j = k := by
  have h1 := congrArg (fun x : ByteArray => x.data.toList) h
  simp only [nmK_list] at h1
  injection h1 with h1 _
  have h2 := congrArg UInt8.toNat h1
  rw [fb_byte, fb_byte] at h2
  exact fb_inj hj hk h2
theorem nmK_path (k : Nat) : isPathB (nmK k).data.toList = true := by
  rw [nmK_list]
  unfold isPathB
  have := fb_lt k
  simp only [List.all_cons, List.all_nil, Bool.and_true, List.length_cons, List.length_nil, fb_byte]
  rw [pathN_yes (fb k) (.inl ⟨by omega, by omega⟩)]
  rfl
theorem nmK_size (k : Nat) : (nmK k).size = 3 := rfl
theorem nmK_less {j k : Nat} (h : fb j < fb k) : bl (nmK j).data.toList (nmK k).data.toList = true := by
  rw [nmK_list, nmK_list, bl_cons]
  have : UInt8.ofNat (fb j) < UInt8.ofNat (fb k) := by rw [UInt8.lt_iff_toNat_lt, fb_byte, fb_byte]; exact h
  rw [decide_eq_true this]
  rfl
/-- References so far: they rise, and are names whose first letters are below c. -/
def RefI (n c : Nat) (r : List ByteArray) : Prop := riseL r = true ∧ ∀ x ∈ r, ∃ j, j ≤ n ∧ x = nmK j ∧ fb j < c
theorem RefI.nil (n c : Nat) : RefI n c [] := ⟨rfl, fun x hx => by cases hx⟩
theorem RefI.up {n c c' : Nat} {r : List ByteArray} (h : RefI n c r) (hc : c ≤ c') : RefI n c' r := ⟨h.1, fun x hx => by obtain ⟨j, h1, h2, h3⟩ := h.2 x hx; exact ⟨j, h1, h2, by omega⟩⟩
theorem RefI.snoc {n c j : Nat} {r : List ByteArray} (h : RefI n c r) (hj : j ≤ n) (hc : fb j = c) : RefI n (c + 1) (r ++ [nmK j]) := by
  refine ⟨riseL_yes fun k hk => ?_, fun x hx => ?_⟩
  · rw [List.length_append, List.length_singleton] at hk
    rw [notAbove_eq]
    by_cases e : k + 1 < r.length
    · rw [List.getElem_append_left e, List.getElem_append_left (by omega), riseL_lt h.1 k e]
      rfl
    · have hkr : k + 1 = r.length := by omega
      obtain ⟨j', h1, h2, h3⟩ := h.2 (r[k]'(by omega)) (List.getElem_mem _)
      rw [List.getElem_append_left (by omega : k < r.length), List.getElem_append_right (by omega)]
      simp only [hkr, Nat.sub_self, List.getElem_cons_zero]
      rw [h2, nmK_less (by omega)]
      rfl
  · rcases List.mem_append.1 hx with hx | hx
    · obtain ⟨j', h1, h2, h3⟩ := h.2 x hx
      exact ⟨j', h1, h2, by omega⟩
    · rw [List.mem_singleton] at hx
      exact ⟨j, hj, hx, by omega⟩
/-- In the midst of the names. -/
def RefJ (n c k : Nat) (r : List ByteArray) : Prop := RefI n c r ∨ (RefI n (c + 1) r ∧ ∃ j0, j0 < k ∧ fb j0 = c)
theorem RefJ.next {n c k : Nat} {r : List ByteArray} (h : RefJ n c k r) : RefJ n c (k + 1) r := by
  rcases h with h | ⟨h, j0, h1, h2⟩
  · exact .inl h
  · exact .inr ⟨h, j0, by omega, h2⟩
theorem RefJ.low {n c k : Nat} {r : List ByteArray} (h : RefJ n c k r) (hk : k ≤ n) (hn : n < 11) (hc : fb k = c) : RefI n c r := by
  rcases h with h | ⟨h, j0, h1, h2⟩
  · exact h
  · have := fb_inj (j := j0) (k := k) (by omega) (by omega) (by omega)
    omega
theorem RefJ.add {n c k : Nat} {r : List ByteArray} (h : RefJ n c k r) (hk : k ≤ n) (hn : n < 11) (hc : fb k = c) : RefJ n c (k + 1) (r ++ [nmK k]) := .inr ⟨(h.low hk hn hc).snoc hk hc, k, by omega, hc⟩
theorem RefJ.done {n c k : Nat} {r : List ByteArray} (h : RefJ n c k r) : RefI n (c + 1) r := by
  rcases h with h | h
  · exact h.up (by omega)
  · exact h.1
theorem RefI.len {n c : Nat} {r : List ByteArray} (h : RefI n c r) (hn : n < 11) : r.length ≤ 11 := by
  have := sub_len r ((List.range (n + 1)).map nmK) (riseL_nodup h.1) (fun x hx => by
    obtain ⟨j, h1, h2, _⟩ := h.2 x hx
    exact List.mem_map.2 ⟨j, List.mem_range.2 (by omega), h2.symm⟩)
  rw [List.length_map, List.length_range] at this
  omega
/-- A store that was built of n names. -/
structure StN (S : List Ent) (n : Nat) : Prop where
  ok : OkR S
  len : S.length = n
  has : ∀ k, k < n → (findS S (nmK k)).isSome = true
  path : ∀ e ∈ S, ∃ k, k < n ∧ e.path = nmK k ∧ ∀ r ∈ e.refs, ∃ j, j ≤ k ∧ r = nmK j
  lone : ∀ e ∈ S, Lone e.nodes
theorem StN.nil : StN [] 0 := ⟨OkR.nil, rfl, (fun k hk => absurd hk (Nat.not_lt_zero _)), (fun e he => by cases he), fun e he => by cases he⟩
theorem StN.fresh {S : List Ent} {n : Nat} (h : StN S n) (hn : n < 10) : findS S (nmK n) = none := by
  cases hf : findS S (nmK n) with
  | none => rfl
  | some e =>
    obtain ⟨he, hp⟩ := findS_some hf
    obtain ⟨k, hk, hpk, _⟩ := h.path e he
    have := nmK_inj (by omega) (by omega) (hpk.symm.trans hp)
    omega
theorem StN.insert {S : List Ent} {n c : Nat} (h : StN S n) (hn : n < 10) {l : List Nd} (hl : firstW l = none) (hlo : Lone l) {r : List ByteArray} (hr : RefI n c r) : (insertF S ⟨nmK n, l, r⟩).1 = 0 ∧ StN (insertF S ⟨nmK n, l, r⟩).2 (n + 1) ∧ (insertF S ⟨nmK n, l, r⟩).2 = insS ⟨nmK n, l, r⟩ S := by
  have e1 : insertF S ⟨nmK n, l, r⟩ = (0, insS ⟨nmK n, l, r⟩ S) := by
    unfold insertF
    rw [if_neg (by rw [nmK_path]; simp), if_neg (by rw [hl]; simp), if_neg (by rw [hr.1]; simp)]
    have hany : r.any (lackS S (nmK n)) = false := by
      rw [List.any_eq_false]
      intro x hx
      obtain ⟨j, h1, h2, _⟩ := hr.2 x hx
      unfold lackS
      by_cases e : j = n
      · rw [h2, e]; simp
      · have h3 := h.has j (by omega)
        rw [h2]
        cases hf : findS S (nmK j) with
        | none => rw [hf] at h3; cases h3
        | some y => simp
    rw [if_neg (by rw [hany]; simp)]
    unfold putS
    simp only [h.fresh hn]
    rw [if_neg (by rw [h.len]; omega)]
  have ho := h.ok.insert ⟨nmK n, l, r⟩
  rw [e1] at ho ⊢
  refine ⟨rfl, ⟨ho, by rw [insS_len, h.len], fun k hk => ?_, fun e he => ?_, fun e he => ?_⟩, rfl⟩
  · rw [findS_insS _ _ _ (h.fresh hn)]
    by_cases e : nmK k = nmK n
    · rw [if_pos e]; rfl
    · rw [if_neg e]
      exact h.has k (by
        have : k ≠ n := fun e' => e (by rw [e'])
        omega)
  · rcases insS_mem he with rfl | he
    · exact ⟨n, by omega, rfl, fun x hx => by obtain ⟨j, h1, h2, _⟩ := hr.2 x hx; exact ⟨j, h1, h2⟩⟩
    · obtain ⟨k, h1, h2, h3⟩ := h.path e he
      exact ⟨k, by omega, h2, h3⟩
  · rcases insS_mem he with rfl | he
    · exact hlo
    · exact h.lone e he
/-- None of them leads to itself by way of others. -/
theorem StN.acyc {S : List Ent} {n : Nat} (h : StN S n) (hn : n ≤ 10) : Acyc S := by
  refine ⟨fun p => ((List.range 11).find? fun k => decide (nmK k = p)).getD 0, fun e he r hr => ?_⟩
  obtain ⟨k, hk, hp, hrf⟩ := h.path e he
  obtain ⟨j, hj, rfl⟩ := hrf r hr
  have hrank : ∀ m, m < 11 → ((List.range 11).find? fun k => decide (nmK k = nmK m)) = some m := fun m hm => by
    cases hf : (List.range 11).find? fun k => decide (nmK k = nmK m) with
    | none => exact absurd (List.find?_eq_none.1 hf m (List.mem_range.2 hm)) (by simp)
    | some x =>
      have h1 : nmK x = nmK m := by simpa using List.find?_some hf
      have h2 := List.mem_range.1 (List.mem_of_find?_eq_some hf)
      rw [nmK_inj h2 hm h1]
  rw [hp]
  simp only [hrank j (by omega), hrank k (by omega), Option.getD_some]
  by_cases e : j = k
  · left; rw [e]
  · right; omega
end Go.Proofs.YticcbaapbnfmmaaDoor
namespace Go.Proofs.YticcbaapbnfmmaaDoor
open Go.RowKit Go.Maps

theorem Tryd.info23 : (Tryd.prog.info? 23).map (fun i => (i.zero, i.size, i.bytes)) = some (some (.slice none 0 0), 1, 24) := by kernel_rfl
def FS (v7 v8 : Value) (k : Nat) : Prop := v7.ownBlock ≠ some k ∧ v8.ownBlock ≠ some k
def nmsK (n : Nat) : List Value := ((List.range n).map nmK).map Value.string
theorem nmsK_succ (n : Nat) : nmsK (n + 1) = nmsK n ++ [.string (nmK n)] := by unfold nmsK; rw [List.range_succ]; simp
theorem results_tmp4 {fn : Func} {t u v x : Tmp} (h : fn.results = #[.tmp t, .tmp u, .tmp v, .tmp x]) (tmps : Array Value) (P : Program) (w : World) :
    (results fn tmps).run P w = .ok (.tuple #[tmps.getD t undef, tmps.getD u undef, tmps.getD v undef, tmps.getD x undef]) w := by
  simp [results, h]
theorem nm_eq {n x : Nat} (h : (7 * n + 3) % 26 = x) : (⟨#[97 + UInt8.ofNat x]⟩ : ByteArray) ++ ⟨#[45, 49]⟩ = nmK n := by
  have e : (97 : UInt8) + UInt8.ofNat x = UInt8.ofNat (97 + x) := by simp
  unfold nmK fb
  rw [h, e]
  rfl
/-- A list of texts in a block that nobody writes. -/
def RG (b : Nat) (v7 v8 : Value) (w : World) (v : Value) (ss : List ByteArray) : Prop := SliceS w v ss ∧ FootV (fun k => (FS v7 v8 k ∧ k ≠ b) ∧ k < w.heap.size) v
theorem RG.kept {b : Nat} {v7 v8 u7 u8 : Value} {w w' : World} {v : Value} {ss : List ByteArray} (h : RG b v7 v8 w v ss) (hsz : w.heap.size ≤ w'.heap.size) (hk : ∀ k, k < w.heap.size → FS v7 v8 k → k ≠ b → w'.heap[k]? = w.heap[k]?) (hF : ∀ k, k < w.heap.size → FS v7 v8 k → FS u7 u8 k) : RG b u7 u8 w' v ss :=
  ⟨h.1.kf h.2 ⟨hsz, fun k _ _ hp _ => hk k hp.2 hp.1.1 hp.1.2⟩, h.2.mono fun k hp => ⟨⟨hF k hp.2 hp.1.1, hp.1.2⟩, Nat.lt_of_lt_of_le hp.2 hsz⟩⟩
theorem RG.below {b : Nat} {v7 v8 : Value} {w w' : World} {v : Value} {ss : List ByteArray} (h : RG b v7 v8 w v ss) (hb : Below w.heap.size w w') : RG b v7 v8 w' v ss := h.kept hb.size (fun k hk _ _ => hb.block k hk) (fun _ _ h => h)
/-- The references, as they were handed out. -/
def RF (b : Nat) (v7 v8 : Value) (w : World) (S : List Ent) (xs : List Value) : Prop := ∀ i (h : i < xs.length), ∃ e, findS S (nmK i) = some e ∧ RG b v7 v8 w xs[i] e.refs
theorem RF.map {b : Nat} {v7 v8 u7 u8 : Value} {w w' : World} {S S' : List Ent} {xs : List Value} (h : RF b v7 v8 w S xs) (hS : ∀ i, i < xs.length → findS S' (nmK i) = findS S (nmK i)) (hG : ∀ {v ss}, RG b v7 v8 w v ss → RG b u7 u8 w' v ss) : RF b u7 u8 w' S' xs := fun i hi => by
  obtain ⟨e, h1, h2⟩ := h i hi
  exact ⟨e, by rw [hS i hi, h1], hG h2⟩
theorem RF.snoc {b : Nat} {v7 v8 : Value} {w : World} {S : List Ent} {xs : List Value} {v : Value} {e : Ent} (h : RF b v7 v8 w S xs) (he : findS S (nmK xs.length) = some e) (hv : RG b v7 v8 w v e.refs) : RF b v7 v8 w S (xs ++ [v]) := fun i hi => by
  by_cases hlt : i < xs.length
  · rw [List.getElem_append_left hlt]
    exact h i hlt
  · obtain rfl : i = xs.length := by rw [List.length_append, List.length_singleton] at hi; omega
    refine ⟨e, he, ?_⟩
    rw [List.getElem_append_right (Nat.le_refl _)]
    simpa using hv
def StoredP (s : ByteArray) (w : World) (e : Ending) (w' : World) : Prop := ∃ q b S n v7 v8 xs, e = .returned (.tuple #[.pointer (some ⟨q, 0, none⟩), v7, v8, .bool true]) ∧ NSt w' q b S ∧ StN S n ∧ n ≤ 10 ∧ (2 ≤ s.size → 0 < n) ∧ w'.ownsRow w.heap.size 9 1 v7 n (nmsK n) ∧ w.heap.size ≤ b ∧ Below w.heap.size w w' ∧ w'.ownsRow w.heap.size 23 1 v8 n xs ∧ ∀ i (h : i < xs.length), ∃ e, findS S (nmK i) = some e ∧ SliceS w' xs[i] e.refs
theorem StoredP.mk {s : ByteArray} {w w' : World} {q b n : Nat} {S : List Ent} {v7 v8 : Value} {xs : List Value} (h1 : NSt w' q b S) (h2 : StN S n) (h3 : n ≤ 10) (h4 : 2 ≤ s.size → 0 < n) (h5 : w'.ownsRow w.heap.size 9 1 v7 n (nmsK n)) (h6 : w.heap.size ≤ b) (h7 : Below w.heap.size w w') (h8 : w'.ownsRow w.heap.size 23 1 v8 n xs) (h9 : RF b v7 v8 w' S xs) : StoredP s w (.returned (.tuple #[.pointer (some ⟨q, 0, none⟩), v7, v8, .bool true])) w' := ⟨q, b, S, n, v7, v8, xs, rfl, h1, h2, h3, h4, h5, h6, h7, h8, fun i hi => by
  obtain ⟨e, k1, k2⟩ := h9 i hi
  exact ⟨e, k1, k2.1⟩⟩
set_option maxRecDepth 20000 in
set_option maxHeartbeats 4000000 in
theorem stored_any (s : ByteArray) (w : World) (hT : Lib.Utf8Tabs 0 1 w) (hs : s.size ≤ 16386) :
    Calls Tryd.prog 4 #[.string s] w (StoredP s w) := by
  obtain ⟨i9, hi9, h90, h91, h92⟩ := info_parts Tryd.info9
  obtain ⟨i23, hi23, h230, h231, h232⟩ := info_parts Tryd.info23
  have cN := hide (NewStore_any w)
  have HT := hide hT
  clear hT
  go_enter Tryd.func4, Tryd.ntmps4
  go_wp2_with fail
  refine cN.out.mono ?_
  rintro e w1 ⟨rfl, hN, hb1⟩
  have HN1 : Hid (NStF (FS (.slice none 0 0) (.slice none 0 0)) w1 (w.heap.size + 1) w.heap.size []) := by
    obtain ⟨hq0, L, hL1, hL2⟩ := hN
    refine hide ⟨hq0, L, hL1, hL2, fun x hx => ?_⟩
    cases L with
    | nil => cases hx
    | cons y L => exact hL2.elim
  have HB1 := hide hb1
  clear hN hb1 cN
  go_wp2
  go_loopw [7, 8, 9] (fun v7 v8 v9 w2 => ∃ (n : Nat) (S : List Ent) (a7 a8 : Option Addr) (c7 c8 : Nat) (xs : List Value), n ≤ 10 ∧ v7 = .slice a7 n c7 ∧ v8 = .slice a8 n c8 ∧ v9 = .int .i64 ((2 * n : Nat) : Int) ∧ 2 * n ≤ s.size + 1 ∧ Hid (StN S n) ∧ Hid (w2.ownsRow w.heap.size 9 1 v7 n (nmsK n)) ∧ Hid (w2.ownsRow w.heap.size 23 1 v8 n xs) ∧ Hid (NStF (FS v7 v8) w2 (w.heap.size + 1) w.heap.size S) ∧ Hid (Below w.heap.size w w2) ∧ Hid (RF w.heap.size v7 v8 w2 S xs)) (fun _ _ i _ => s.size + 2 - (intOf i).toNat)
  case atStart => exact ⟨0, [], none, none, 0, 0, [], by omega, rfl, rfl, rfl, by omega, hide StN.nil, hide (World.ownsRow_nil _ _ _ _), hide (World.ownsRow_nil _ _ _ _), HN1, HB1, hide (fun i h => absurd h (Nat.not_lt_zero _))⟩
  case round =>
    obtain ⟨n, S, a7, a8, c7, c8, xs, hn10, rfl, rfl, rfl, hle, HST, HO7, HO8, HN, HB, HR⟩ := hrel
    clear HN1 HB1
    by_cases hlt : 2 * n + 1 < s.size
    · have hltz : ((2 * n : Nat) : Int) + 1 < s.size := by omega
      by_cases hn : n < 10
      · have hnz : (n : Int) < 10 := by omega
        have hrem : Int.tmod (7 * (n : Int) + 3) 26 = (((7 * n + 3) % 26 : Nat) : Int) := by
          rw [Int.tmod_eq_emod_of_nonneg (by omega)]; omega
        obtain ⟨x, hx⟩ : ∃ x, (7 * n + 3) % 26 = x := ⟨_, rfl⟩
        rw [hx] at hrem
        have hxl : x < 26 := by omega
        have hcv := fun (W : World) b hb => conv_at W b hb (x : Int) (by omega) (by omega)
        have hnm := nm_eq hx
        go_upto_region 10 with fail
        try rw [hnm]
        generalize (⟨#[UInt8.ofNat (97 + x)]⟩ : ByteArray) = sx
        have HO7I := hide (HO7.out.alloc (.cells #[.int .u8 (97 + (x : Int))] 5))
        have HO8I := hide (HO8.out.alloc (.cells #[.int .u8 (97 + (x : Int))] 5))
        have HNI : Hid (NStF (FS (.slice a7 n c7) (.slice a8 n c8)) (wr.alloc (.cells #[.int .u8 (97 + (x : Int))] 5)) (w.heap.size + 1) w.heap.size S) := hide ⟨(block_keep _ HN.out.1), HN.out.2.below ((Below.refl _ wr).alloc (Nat.le_refl _) _)⟩
        have HBI := hide (HB.out.alloc HB.out.size (.cells #[.int .u8 (97 + (x : Int))] 5))
        have HQI := hide (HR.out.map (S' := S) (w' := wr.alloc (.cells #[.int .u8 (97 + (x : Int))] 5)) (fun _ _ => rfl) (fun h => h.below ((Below.refl _ wr).alloc (Nat.le_refl _) _)))
        clear HO7 HO8 HN HB HR hcv hnm hrem
        generalize wr.alloc (.cells #[.int .u8 (97 + (x : Int))] 5) = wI at *
        go_wp2
        go_loopw [11, 12] (fun v11 v12 w3 => ∃ (c : Nat) (r : List ByteArray) (a11 : Option Addr) (c11 : Nat), v11 = .slice a11 r.length c11 ∧ v12 = .int .u8 (c : Nat) ∧ 97 ≤ c ∧ c ≤ 123 ∧ Hid (RefI n c r) ∧ Hid (w3.ownsRow wI.heap.size 9 1 v11 r.length (r.map Value.string)) ∧ Hid (Below wI.heap.size wI w3)) (fun _ v12 _ => 123 - (intOf v12).toNat)
        case atStart => exact ⟨97, [], none, 0, rfl, rfl, by omega, by omega, hide (RefI.nil _ _), hide (World.ownsRow_nil _ _ _ _), hide (Below.refl _ _)⟩
        case round =>
          obtain ⟨c, r, a11, c11, rfl, rfl, hc1, hc2, HRI, HOR, HBR⟩ := hrel
          by_cases hcl : c ≤ 122
          · have hclz : (c : Int) ≤ 122 := by omega
            go_wp2
            go_loopw [11, 46] (fun v11 v46 w4 => ∃ (k : Nat) (r : List ByteArray) (a11 : Option Addr) (c11 : Nat), k ≤ n ∧ v46 = .int .i64 (k : Nat) ∧ v11 = .slice a11 r.length c11 ∧ Hid (RefJ n c k r) ∧ Hid (w4.ownsRow wI.heap.size 9 1 v11 r.length (r.map Value.string)) ∧ Hid (Below wI.heap.size wI w4)) (fun _ v46 _ => n - (intOf v46).toNat)
            case atStart => exact ⟨0, r, a11, c11, by omega, rfl, rfl, hide (.inl HRI.out), HOR, HBR⟩
            case round =>
              obtain ⟨k, rk, ak, ck, hkn, rfl, rfl, HRJ, HORJ, HBJ⟩ := hrel
              clear HRI HOR HBR
              have hszk := HBJ.out.size
              by_cases hlk : k < n
              · have hlkz : (k : Int) < (n : Int) := by omega
                obtain ⟨g7, cp7, hg7, _⟩ := own_form HO7I.out (by omega)
                cases hg7
                have c7k : wr.cell? ⟨g7, k, none⟩ = some (.string (nmK k)) := by
                  have hlt := (HO7I.out.lt g7 rfl).2
                  rw [HBJ.out.cell (p := ⟨g7, k, none⟩) hlt, HO7I.out.cellAt k (by omega)]
                  unfold nmsK
                  simp [hlk]
                go_upto_region 17 with fail
                have hz0 : 0 < (nmK k).size := by rw [nmK_size]; omega
                have hz1 : ((nmK k)[0]'hz0).toNat = fb k := fb_byte k
                have h2n : 2 * n < s.size := by omega
                have h2nz : 2 * (n : Int) < s.size := by omega
                have hk8 : Int.tmod (k : Int) 8 = ((k % 8 : Nat) : Int) := by rw [Int.tmod_eq_emod_of_nonneg (by omega)]; rfl
                go_cut [64] from 51 to 64 (fun v64 wc => ∃ bb : Bool, v64 = .bool bb ∧ (bb = true → fb k = c) ∧ wr = wc)
                case first =>
                  by_cases hfc : fb k = c
                  · have hve : ((fb k : Int) == (c : Int)) = true := by rw [hfc]; simp
                    go_wp2
                    go_meet
                    exact ⟨_, rfl, fun _ => hfc, rfl⟩
                  · have hve : ((fb k : Int) == (c : Int)) = false := beq_eq_false_iff_ne.2 (by omega)
                    go_wp2
                    go_meet
                    exact ⟨false, rfl, (fun h => by cases h), rfl⟩
                case rest =>
                  obtain ⟨bb, rfl, hbb, hwc⟩ := hcut
                  subst hwc
                  clear hz1 hz0 hk8 h2n h2nz c7k
                  go_step
                  cases bb with
                  | false =>
                    go_wp2
                    go_roundw
                    case rel => exact ⟨k + 1, rk, ak, ck, by omega, by go_num, rfl, hide HRJ.out.next, HORJ, HBJ⟩
                    case measure => simp [intOf]; omega
                  | true =>
                    have hfk := hbb rfl
                    have hrl := HRJ.out.done.len (by omega)
                    go_wp2_with (at_builtin; refine wpList_append_own _ rfl (.tmp 65) (.tmp 67) 23 rfl wI.heap.size 9 i9 (.string ⟨#[]⟩) 1 16 Tryd.underlying23 hi9 h90 h91 h92 rfl (by decide) _ _ _ rfl (HORJ.out.alloc _) ⟨wr.heap.size, 0, none⟩ 1 1 [.string (nmK k)] rfl rfl (cell_one_at _ _ _ _ rfl) (fun x hx => by simp at hx; subst hx; rfl) (by unfold maxLen; omega) (by omega) (by simp; omega) ?_; intro v5 w5 hown5 hgrow5 hnil5; obtain ⟨a5, c5, rfl, _⟩ := own_sl hown5; have HO5 := hide hown5; have HG5 := hide hgrow5; clear hown5 hgrow5 hnil5)
                    have HB5 : Hid (Below wI.heap.size wI w5) := hide ((HBJ.out.alloc hszk _).grown HG5.out (by simp; omega) (fun g hg => (HORJ.out.lt g hg).1))
                    go_roundw
                    case rel => exact ⟨k + 1, rk ++ [nmK k], a5, c5, by omega, by go_num, by simp, hide (HRJ.out.add (by omega) (by omega) hfk), hide (by rw [List.map_append, List.length_append]; exact HO5.out), HB5⟩
                    case measure => simp [intOf]; omega
              · obtain rfl : k = n := by omega
                have hlkz : ¬ ((k : Nat) : Int) < k := by omega
                have hz0 : 0 < (nmK k).size := by rw [nmK_size]; omega
                have hz1 : ((nmK k)[0]'hz0).toNat = fb k := fb_byte k
                go_upto_region 20 with fail
                go_cut [81] from 70 to 81 (fun v81 wc => ∃ bb : Bool, v81 = .bool bb ∧ (bb = true → fb k = c) ∧ wr = wc)
                case first =>
                  by_cases hfc : fb k = c
                  · have hve : ((fb k : Int) == (c : Int)) = true := by rw [hfc]; simp
                    go_wp2
                    go_meet
                    exact ⟨_, rfl, fun _ => hfc, rfl⟩
                  · have hve : ((fb k : Int) == (c : Int)) = false := beq_eq_false_iff_ne.2 (by omega)
                    go_wp2
                    go_meet
                    exact ⟨false, rfl, (fun h => by cases h), rfl⟩
                case rest =>
                  obtain ⟨bb, rfl, hbb, hwc⟩ := hcut
                  subst hwc
                  clear hz1 hz0
                  have hcw : IntKind.u8.wrap ((c : Int) + 1) = ((c + 1 : Nat) : Int) := by rw [IntKind.wrap_u8]; omega
                  go_step
                  cases bb with
                  | false =>
                    go_wp2
                    go_roundw
                    case rel => exact ⟨c + 1, rk, ak, ck, rfl, by first | rfl | (simp [hcw]), by omega, by omega, hide HRJ.out.done, HORJ, HBJ⟩
                    case measure => simp [intOf]; omega
                  | true =>
                    have hfk := hbb rfl
                    have hrl := HRJ.out.done.len (by omega)
                    go_wp2_with (at_builtin; refine wpList_append_own _ rfl (.tmp 82) (.tmp 84) 23 rfl wI.heap.size 9 i9 (.string ⟨#[]⟩) 1 16 Tryd.underlying23 hi9 h90 h91 h92 rfl (by decide) _ _ _ rfl (HORJ.out.alloc _) ⟨wr.heap.size, 0, none⟩ 1 1 [.string (nmK k)] rfl rfl (cell_one_at _ _ _ _ rfl) (fun x hx => by simp at hx; subst hx; rfl) (by unfold maxLen; omega) (by omega) (by simp; omega) ?_; intro v5 w5 hown5 hgrow5 hnil5; obtain ⟨a5, c5, rfl, _⟩ := own_sl hown5; have HO5 := hide hown5; have HG5 := hide hgrow5; clear hown5 hgrow5 hnil5)
                    have HB5 : Hid (Below wI.heap.size wI w5) := hide ((HBJ.out.alloc hszk _).grown HG5.out (by simp; omega) (fun g hg => (HORJ.out.lt g hg).1))
                    go_roundw
                    case rel => exact ⟨c + 1, rk ++ [nmK k], a5, c5, by simp, by first | rfl | (simp [hcw]), by omega, by omega, hide ((HRJ.out.low (by omega) (by omega) hfk).snoc (by omega) hfk), hide (by rw [List.map_append, List.length_append]; exact HO5.out), HB5⟩
                    case measure => simp [intOf]; omega
          · obtain rfl : c = 123 := by omega
            go_upto_region 22 with fail
            go_wp2_with fail
            generalize hge : s.extract (2 * n) _ = tx
            have htz : tx.size ≤ 16384 := by rw [← hge, ByteArray.size_extract]; omega
            have HBRw := hide (HBI.out.trans (HBR.out.mono HBI.out.size))



            refine (grown_any tx wr htz).mono ?_
            rintro e w4 ⟨vg, lg, rfl, hog, hTr, hb4⟩
            obtain ⟨ga, gc, rfl, _⟩ := own_sl hog
            obtain ⟨dz, hdz⟩ := hTr.run
            have hins := HST.out.insert hn (firstW_run lg dz hTr.ne hdz) hTr.lone HRI.out
            have hB4 := HBRw.out.trans (hb4.mono HBRw.out.size)
            have hI4 : Below wI.heap.size wI w4 := HBR.out.trans (hb4.mono HBR.out.size)
            have ho7 := own_below HO7I.out hI4
            have ho8 := own_below HO8I.out hI4
            have hor := own_below HOR.out hb4
            have hN4 : NStF (FS (.slice a7 n c7) (.slice a8 n c8)) w4 (w.heap.size + 1) w.heap.size S := ⟨(hI4.block _ (lt_of_block HNI.out.1)).trans HNI.out.1, HNI.out.2.below hI4⟩
            have HQ4 := hide (HQI.out.map (S' := S) (w' := w4) (fun _ _ => rfl) (fun h => h.below hI4))
            have HG4 : Hid (RG w.heap.size (.slice a7 n c7) (.slice a8 n c8) w4 (.slice a11 r.length c11) r) := hide ⟨own_strs hor, fun ad m cc e => by
              injection e with e _ _
              subst e
              have h1 := hor.lt ad.block rfl
              have h2 := HBR.out.size
              have h3 := HBI.out.size
              have h4 := lt_of_block HNI.out.1
              exact ⟨⟨⟨fun e => by have := (HO7I.out.lt _ e).2; omega, fun e => by have := (HO8I.out.lt _ e).2; omega⟩, by omega⟩, h1.2⟩⟩
            have hrl := HRI.out.len (by omega)
            have cI := hide (narInsertF_any _ (w.heap.size + 1) w.heap.size S ⟨nmK n, lg, r⟩ (.slice ga lg.length gc) (.slice a11 r.length c11) w4 hN4 (fun k hk => ⟨fun e => by have := (ho7.lt k e).2; omega, fun e => by have := (ho8.lt k e).2; omega⟩) (tabsB (tabs2 HT.out) HT.out hB4) (own_nodes hog).1 ⟨by have := hTr.len; show lg.length ≤ _; omega, fun y hy => by have := hTr.small y hy; omega⟩ (own_strs hor) (by show r.length ≤ _; omega) (fun y hy => by obtain ⟨j, _, h2, _⟩ := HRI.out.2 y hy; rw [h2, nmK_size]; omega) (fun y hy => by have := HST.out.ok.ok.few y hy; omega) (by show (nmK n).size ≤ _; rw [nmK_size]; omega))
            rw [hins.1] at cI
            have HIN := hide hins.2.1
            have HEQ := hide hins.2.2
            obtain ⟨es, clk, hmb⟩ : ∃ es clk, w4.heap[w.heap.size]? = some (.map es clk) := by
              obtain ⟨_, L, ⟨es, clock, h1, _⟩, _⟩ := hN4
              exact ⟨es, clock, h1⟩
            have HK4 := hide (And.intro ho7 (And.intro ho8 (And.intro hor (And.intro hmb hB4))))
            clear hog hTr hdz hins ho7 ho8 hor hN4 hmb hB4 hI4 HBR HOR HNI HO7I HO8I HBRw HBI
            go_wp2_with fail
            refine cI.out.mono ?_
            rintro e w5 ⟨rfl, hN5, hW5⟩
            obtain ⟨ho7, ho8, hor, hmb, hB4⟩ := HK4.out
            have hkeep : ∀ {e s n : Nat} {v : Value} {ys : List Value}, w4.ownsRow w.heap.size e s v n ys → w5.ownsRow w.heap.size e s v n ys := fun ho => own_kept ho fun g hg => hW5.1.blk g (ho.lt g hg).2 fun e => by
              obtain ⟨cur, hc⟩ := own_block ho hg
              rw [e, hmb] at hc
              cases hc
            have HO7 := hide (hkeep ho7)
            have HO8 := hide (hkeep ho8)
            have HN5 := hide hN5
            have hxl : xs.length = n := by have := HO8.out.1; omega
            have hfS : ∀ i, i < xs.length → findS (insertF S ⟨nmK n, lg, r⟩).2 (nmK i) = findS S (nmK i) := fun i hi => by
              rw [HEQ.out, findS_insS _ _ _ (HST.out.fresh hn), if_neg (fun e => by have := nmK_inj (by omega) (by omega) e; omega)]
            have hfn : findS (insertF S ⟨nmK n, lg, r⟩).2 (nmK xs.length) = some ⟨nmK n, lg, r⟩ := by
              rw [HEQ.out, findS_insS _ _ _ (HST.out.fresh hn), hxl, if_pos rfl]
            have HQ5 : Hid (RF w.heap.size (.slice a7 n c7) (.slice a8 n c8) w5 (insertF S ⟨nmK n, lg, r⟩).2 (xs ++ [.slice a11 r.length c11])) := hide (by
              refine RF.snoc (e := ⟨nmK n, lg, r⟩) (HQ4.out.map hfS fun h => h.kept hW5.1.1 (fun k hk _ hne => hW5.1.blk k hk hne) fun _ _ h => h) hfn ?_
              exact HG4.out.kept hW5.1.1 (fun k hk _ hne => hW5.1.blk k hk hne) fun _ _ h => h)
            clear hfS hfn HQ4 HG4
            have HB5 := hide (hB4.trans (hW5.2 w.heap.size (Nat.le_refl _)))
            clear hN5 hW5 hkeep ho7 ho8 hor hmb hB4 HK4 cI
            have hsz5 := HB5.out.size
            go_upto_region 25 with (at_builtin; (refine wpList_append_own_at _ rfl (.tmp 106) (.tmp 108) 23 rfl w.heap.size 9 i9 (.string ⟨#[]⟩) 1 16 Tryd.underlying23 hi9 h90 h91 h92 rfl (by decide) _ _ _ rfl (HO7.out.alloc _) ⟨w5.heap.size, 0, none⟩ 1 1 [.string (nmK n)] rfl rfl (cell_one_at _ _ _ _ rfl) (fun x hx => by simp at hx; subst hx; rfl) (by unfold maxLen; omega) (by omega) (by simp; omega) ?_; intro v6 w6 hown6 hgrow6 hnil6 hat6; obtain ⟨a6, c6, rfl, _⟩ := own_sl hown6; have HO6 := hide hown6; have HG6 := hide hgrow6; have HA6 := hide hat6; have HO86 : Hid (w6.ownsRow w.heap.size 23 1 (.slice a8 n c8) n xs) := hide (own_keepT (HO8.out.alloc _) (grown_keepT (HO7.out.alloc _) hgrow6 (by decide))); have hsz6 : w.heap.size ≤ w6.heap.size := (by have := hgrow6.size; simp at this; omega); clear hown6 hgrow6 hnil6 hat6))
            go_wp2_with (at_builtin; refine wpList_append_own_at _ rfl (.tmp 110) (.tmp 112) 24 rfl w.heap.size 23 i23 (.slice none 0 0) 1 24 Tryd.underlying24 hi23 h230 h231 h232 rfl (by decide) _ _ _ rfl (HO86.out.alloc _) ⟨w6.heap.size, 0, none⟩ 1 1 [.slice a11 r.length c11] rfl rfl (cell_one_at _ _ _ _ rfl) (fun x hx => by simp at hx; subst hx; rfl) (by unfold maxLen; omega) (by omega) (by simp; omega) ?_; intro v7 w7 hown7 hgrow7 hnil7 hat7; obtain ⟨a9, c9, rfl, _⟩ := own_sl hown7; have HO9 := hide hown7; have HG7 := hide hgrow7; have HA7 := hide hat7; clear hown7 hgrow7 hnil7 hat7)
            have hb5m : w5.heap[w.heap.size]? ≠ none := fun e => by
              obtain ⟨_, L, ⟨es, clock, h1, _⟩, _⟩ := HN5.out
              rw [h1] at e
              cases e
            have hN5a : NStF (FS (.slice a7 n c7) (.slice a8 n c8)) (w5.alloc (.cells #[.string (nmK n)] 9)) (w.heap.size + 1) w.heap.size (insertF S ⟨nmK n, lg, r⟩).2 := ⟨block_keep _ HN5.out.1, HN5.out.2.below ((Below.refl _ w5).alloc (Nat.le_refl _) _)⟩
            have hrowne : ∀ {W : World} {T : List Ent} {e s m g : Nat} {v : Value} {ys : List Value}, NStF (FS (.slice a7 n c7) (.slice a8 n c8)) W (w.heap.size + 1) w.heap.size T ∨ NStF (FS (.slice a6 (n + 1) c6) (.slice a8 n c8)) W (w.heap.size + 1) w.heap.size T → W.ownsRow w.heap.size e s v m ys → e ≠ 42 → v.ownBlock = some g → g ≠ w.heap.size + 1 ∧ g ≠ w.heap.size := by
              intro W T e s m g v ys hN ho he hg
              obtain ⟨cur, hc⟩ := own_block ho hg
              have hq : W.heap[w.heap.size + 1]? = some (.cells #[.map (some w.heap.size)] 42 (0, 0)) := by rcases hN with h | h <;> exact h.1
              have hm : ∃ es ck, W.heap[w.heap.size]? = some (.map es ck) := by
                rcases hN with h | h <;> (obtain ⟨_, L, ⟨es, clock, h1, _⟩, _⟩ := h; exact ⟨es, clock, h1⟩)
              obtain ⟨es, ck, hm⟩ := hm
              refine ⟨fun e' => ?_, fun e' => ?_⟩
              · rw [e', hq] at hc
                injection hc with hc
                injection hc with _ hc _
                exact he hc.symm
              · rw [e', hm] at hc
                cases hc
            have hN6 : NStF (FS (.slice a6 (n + 1) c6) (.slice a8 n c8)) w6 (w.heap.size + 1) w.heap.size (insertF S ⟨nmK n, lg, r⟩).2 := hN5a.grown HG6.out (fun g hg => ⟨fun hf => hf.1 hg, hrowne (.inl hN5a) (HO7.out.alloc _) (by decide) hg⟩) (fun k hk hf => ⟨fun e => by
              rcases HA6.out with h1 | h1
              · exact hf.1 (h1.symm.trans e)
              · rw [h1] at e
                injection e with e
                omega, hf.2⟩)
            have hN6a : NStF (FS (.slice a6 (n + 1) c6) (.slice a8 n c8)) (w6.alloc (.cells #[.slice a11 r.length c11] 23)) (w.heap.size + 1) w.heap.size (insertF S ⟨nmK n, lg, r⟩).2 := ⟨block_keep _ hN6.1, hN6.2.below ((Below.refl _ w6).alloc (Nat.le_refl _) _)⟩
            have HN7 : Hid (NStF (FS (.slice a6 (n + 1) c6) (.slice a9 (n + 1) c9)) w7 (w.heap.size + 1) w.heap.size (insertF S ⟨nmK n, lg, r⟩).2) := hide (hN6a.grown HG7.out (fun g hg => ⟨fun hf => hf.2 hg, hrowne (.inr hN6a) (HO86.out.alloc _) (by decide) hg⟩) (fun k hk hf => ⟨hf.1, fun e => by
              rcases HA7.out with h1 | h1
              · exact hf.2 (h1.symm.trans e)
              · rw [h1] at e
                injection e with e
                omega⟩))
            have HO67 : Hid (w7.ownsRow w.heap.size 9 1 (.slice a6 (n + 1) c6) (n + 1) (nmsK (n + 1))) := hide (by rw [nmsK_succ]; exact own_keepT (HO6.out.alloc _) (grown_keepT (HO86.out.alloc _) HG7.out (by decide)))
            have HB7 : Hid (Below w.heap.size w w7) := hide (((HB5.out.alloc hsz5 _).grown HG6.out (by simp; omega) (fun k hk => (HO7.out.lt k hk).1)).alloc hsz6 _ |>.grown HG7.out (by simp; omega) (fun k hk => (HO86.out.lt k hk).1))
            have hQ5a := HQ5.out.map (S' := (insertF S ⟨nmK n, lg, r⟩).2) (w' := w5.alloc (.cells #[.string (nmK n)] 9)) (fun _ _ => rfl) (fun h => h.below ((Below.refl _ w5).alloc (Nat.le_refl _) _))
            have hQ6 : RF w.heap.size (.slice a6 (n + 1) c6) (.slice a8 n c8) w6 (insertF S ⟨nmK n, lg, r⟩).2 (xs ++ [.slice a11 r.length c11]) := hQ5a.map (fun _ _ => rfl) fun h => h.kept HG6.out.size (fun k hk hf _ => HG6.out.block k hk fun e => hf.1 e.symm) (fun k hk hf => ⟨fun e => by
              rcases HA6.out with h1 | h1
              · exact hf.1 (h1.symm.trans e)
              · rw [h1] at e
                injection e with e
                omega, hf.2⟩)
            have hQ6a := hQ6.map (S' := (insertF S ⟨nmK n, lg, r⟩).2) (w' := w6.alloc (.cells #[.slice a11 r.length c11] 23)) (fun _ _ => rfl) (fun h => h.below ((Below.refl _ w6).alloc (Nat.le_refl _) _))
            have HQ7 : Hid (RF w.heap.size (.slice a6 (n + 1) c6) (.slice a9 (n + 1) c9) w7 (insertF S ⟨nmK n, lg, r⟩).2 (xs ++ [.slice a11 r.length c11])) := hide (hQ6a.map (fun _ _ => rfl) fun h => h.kept HG7.out.size (fun k hk hf _ => HG7.out.block k hk fun e => hf.2 e.symm) (fun k hk hf => ⟨hf.1, fun e => by
              rcases HA7.out with h1 | h1
              · exact hf.2 (h1.symm.trans e)
              · rw [h1] at e
                injection e with e
                omega⟩))
            clear hN5a hN6 hN6a hrowne hb5m hQ5a hQ6 hQ6a HQ5
            go_wp2
            go_roundw
            case rel => exact ⟨n + 1, _, a6, a9, c6, c9, _, by omega, rfl, rfl, by go_num, by omega, HIN, HO67, HO9, HN7, HB7, HQ7⟩
            case measure => simp [intOf]; omega
      · obtain rfl : n = 10 := by omega
        go_wp2
        (try simp only [Exit.inBlock, Exit.then])
        refine bodyPost_ret (results_tmp4 rfl _ _ _) rfl ?_
        exact StoredP.mk ⟨HN.out.1, HN.out.2.st⟩ HST.out (by omega) (fun _ => by omega) HO7.out (Nat.le_refl _) HB.out HO8.out HR.out
    · have hltz : ¬ ((2 * n : Nat) : Int) + 1 < s.size := by omega
      go_wp2
      (try simp only [Exit.inBlock, Exit.then])
      refine bodyPost_ret (results_tmp4 rfl _ _ _) rfl ?_
      exact StoredP.mk ⟨HN.out.1, HN.out.2.st⟩ HST.out (by omega) (fun _ => by omega) HO7.out (Nat.le_refl _) HB.out HO8.out HR.out
end Go.Proofs.YticcbaapbnfmmaaDoor
