/-
  WALKS of the reader, 4: Must.
-/
import Derived.Test.YtpbjdfobbnpjfaaDoorC3
import Derived.Lib.BufferOwn
import Derived.RegionTactic
import Derived.Maps.AppendAt
import Derived.Test.YtpbjdfobbnpjfaaDoorBS
namespace Go.Proofs.YtpbjdfobbnpjfaaDoor
open Go.RowKit Go.Shelf

attribute [local go_sem] Oper.semAt_some

/-- Nothing that lay has turned but block R and one row. -/
def K2 (R : Nat) (row : Option Nat) (w w' : World) : Prop := ∀ k, k < w.heap.size → k ≠ R → some k ≠ row → w'.heap[k]? = w.heap[k]?
theorem Tryd.info75 : (Tryd.prog.info? 75).map (fun i => (i.zero, i.size, i.bytes)) = some (some (.agg #[.int .i64 0, .nilFunc]), 2, 16) := by kernel_rfl

/-- append onto a row of the call's own, as one step of a region that draws. -/
theorem step_append_own {P : Program} {ops : Array Oper} {o : Oper} {a : Act} {w : World} {K : Act → World → Prop} {Q : Exit → Act → World → Prop} {E : Prop}
    (hg : o.guard = none) (s x : Operand) (t : TypeId) (hop : o.op = Op.call { callee := Callee.builtin Builtin.append, args := #[s, x], argTypes := #[t, t] })
    (base : Nat) (e : TypeId) (i : TypeInfo) (z : Value) (size bytes : Nat) (h1 : P.underlying t = some (.slice e)) (h2 : P.info? e = some i) (h3 : i.zero = some z) (h4 : i.size = size) (h5 : i.bytes = bytes) (h6 : z.cells.size = size) (h7 : 0 < size)
    (v : Value) (k : Nat) (xs : List Value) (hs : a.eval s = v) (hown : w.ownsRow base e size v k xs) (ad : Addr) (m c : Nat) (news : List Value) (hx : a.eval x = .slice (some ad) m c) (hn : news.length = m * size)
    (hc : ∀ j u, news[j]? = some u → w.cell? (ad.add j) = some u) (h1c : ∀ u ∈ news, u.oneCell' = true) (b1 : k + m ≤ maxLen) (b2 : (k + m) * bytes ≤ 140737488355328) (b3 : base ≤ w.heap.size)
    (hK : ∀ v' w', w'.ownsRow base e size v' (k + m) (xs ++ news) → w.grownBy w' v.ownBlock → (v'.ownBlock = v.ownBlock ∨ v'.ownBlock = some w.heap.size) → K (a.put o.dst v') w') :
    if Region.wanted o (yielded ops a.tmps) = true then Oper.wp P o a w K Q else E := by
  have hw : Region.wanted o (yielded ops a.tmps) = true := by simp [Region.wanted, hg]
  rw [if_pos hw]
  obtain ⟨v', w', hrun, r1, r2, _, r4⟩ := run_append_own_at (P := P) w base t o.type e i z size bytes h1 h2 h3 h4 h5 h6 h7 v k xs hown ad m c news hn hc h1c b1 b2 b3
  unfold Oper.wp
  simp [execOp, hop, resolve, invoke, builtin, hs, hx, hrun, Result.andThen]
  exact hK v' w' r1 r2 r4
/-- In a round, at the wide fence: what holds of every order plainly holds there. -/
theorem anyIn_of_any {P : Program} {ops : Array Oper} {Q : Exit → Act → World → Prop} {md : Region.Mode} (l n : Nat) (hQ : ¬ LetsOut Q) (hd : ∀ (i : Nat) (o : Oper), ops[i]? = some o → ∀ c, o.op ≠ .defer c) :
    ∀ (fuel : Nat) (listed : Array Bool) (a : Act) (w : World), wpAny P md ops Q fuel listed a w → wpAnyIn (Fence.wide.inRound l) n P md ops Q fuel listed a w
  | 0, listed, a, w, h => h
  | fuel + 1, listed, a, w, h => by
    refine ⟨h.1, fun i hi => ?_⟩
    have h2 := h.2 i hi
    unfold wpOp at h2
    unfold wpOpIn
    cases ho : ops[i]? with
    | none => rw [ho] at h2; exact anyIn_of_any l n hQ hd fuel _ a w h2
    | some o =>
      rw [ho] at h2
      simp only at h2 ⊢
      by_cases hw : Region.wanted o (yielded ops a.tmps) = true
      · rw [if_pos hw] at h2 ⊢
        rcases h2 with h2 | h2
        · refine ⟨fun _ _ => trivial, ?_⟩
          have hs : o.semAt (Fence.wide.inRound l).round a.eval = execOp a.eval o := Oper.semAt_some l a.eval o (hd i o ho)
          rw [hs]
          unfold Oper.wp at h2
          cases hr : (execOp a.eval o).run P w with
          | ok x w' =>
            rw [hr] at h2
            cases x with
            | value v => exact anyIn_of_any l n hQ hd fuel _ _ _ h2
            | skip => exact anyIn_of_any l n hQ hd fuel _ _ _ h2
            | defer d => exact anyIn_of_any l n hQ hd fuel _ _ _ h2
            | enter f args =>
              refine ⟨(fun h => by cases h), CallsIn.inRound l (callsIn_wide.2 (Calls.mono h2 ?_))⟩
              intro e w'' he
              cases e with
              | returned v => exact anyIn_of_any l n hQ hd fuel _ _ _ he
              | panicked c => exact he
              | outgrown => exact he
            | row row args =>
              refine ⟨(fun h => by cases h), fun c cs _ => ?_⟩
              obtain ⟨v, w'', r, s⟩ := h2 c cs
              exact ⟨v, w'', anyIn_of_any l n hQ hd fuel _ _ _ r, stepsIn_wide.2 s⟩
            | _ => exact h2.elim
          | halt x w' =>
            rw [hr] at h2
            cases x <;> first | exact h2 | exact h2.elim
        · exact absurd h2.2 hQ
      · rw [if_neg hw] at h2 ⊢
        exact ⟨fun _ _ => trivial, anyIn_of_any l n hQ hd fuel _ _ _ h2⟩
theorem block_set {w : World} {b : Nat} {cs : Array Value} {t : TypeId} (h : w.heap[b]? = some (.cells cs t (0, 0))) (j : Nat) (u : Value) : (w.setCell ⟨b, j, none⟩ u).heap[b]? = some (.cells (cs.setIfInBounds j u) t (0, 0)) := by
  have hlt := lt_of_block h
  have h' : w.heap[b] = .cells cs t (0, 0) := by simpa [Array.getElem?_eq_getElem hlt] using h
  show (w.heap.modify b _)[b]? = _
  rw [Array.getElem?_eq_getElem (by simpa using hlt), Array.getElem_modify_self, h']
  rfl
theorem putObj_other (W : World) (l b : Nat) (o' : Obj) (h : b ≠ l) : (W.putObj l o').heap[b]? = W.heap[b]? := by
  by_cases hb : b < W.heap.size
  · exact (grownBy_putObj' W l o').block b hb (fun e => h (by cases e; rfl))
  · have h1 : W.heap[b]? = none := Array.getElem?_eq_none (by omega)
    rw [h1]
    exact Array.getElem?_eq_none (by have := (grownBy_putObj' W l o').size; simp [World.putObj]; omega)
/-- Between two rounds of Must. -/
def MI (B R : Nat) (w : World) (v c0 c1 c3 c4 c5 c6 c7 : Value) (n0 : Nat) (xs : List Value) (pre : List (Nat × IV)) (W : World) : Prop :=
  ∃ v', W.heap[R]? = some (.cells #[c0, c1, v', c3, c4, c5, c6, c7] 61 (0, 0)) ∧ W.ownsRow B 75 2 v' (n0 + pre.length) (xs ++ flatI (pre.map (·.2))) ∧ Boxed W w.heap.size 78 (.pointer (some ⟨R, 0, none⟩)) ∧ Below B w W ∧ K2 R v.ownBlock w W ∧ (v'.ownBlock = v.ownBlock ∨ ∀ k, v'.ownBlock = some k → w.heap.size + 2 ≤ k) ∧ w.heap.size + 2 ≤ W.heap.size
theorem MI_own (B R : Nat) (w : World) (v c0 c1 c3 c4 c5 c6 c7 : Value) (n0 : Nat) (xs : List Value) (S : Nat) (hS : w.heap.size ≤ S) (hB : B ≤ w.heap.size) : OwnFrom S (MI B R w v c0 c1 c3 c4 c5 c6 c7 n0 xs) := by
  rintro s A C row ⟨v', hR, hown, hbx, hbel, hk2, hfr, hs2⟩ hg hr
  have hcell : ∀ k cs t fz, A.heap[k]? = some (.cells cs t fz) → some k ≠ row := fun k cs t fz hk e => by
    obtain ⟨_, o, ho, hc⟩ := hr k e.symm
    rw [hk] at ho; cases ho; cases hc
  refine ⟨v', (hg.block R (lt_of_block hR) (hcell _ _ _ _ hR)).trans hR, hown.kept hg ?_, (hg.block _ hbx.lt (hcell _ _ _ _ hbx)).trans hbx, hbel.grown hg (by have := hbel.size; omega) (fun k hk => by have := (hr k hk).1; omega), fun k hk h1 h2 => ?_, hfr, Nat.le_trans hs2 hg.size⟩
  · cases hv : v'.ownBlock with
    | none => exact .inl rfl
    | some g =>
      right
      obtain ⟨c, fz, hc⟩ := own_kind hown g hv
      exact hcell _ _ _ _ hc
  · have := hbel.size
    exact (hg.block k (by omega) (fun e => by have := (hr k e.symm).1; omega)).trans (hk2 k hk h1 h2)

set_option maxRecDepth 100000 in
set_option maxHeartbeats 2000000 in
theorem Must_any (B R b : Nat) (w : World) (c0 c1 c3 c4 c5 c6 c7 v : Value) (n0 : Nat) (xs : List Value) (its : List IV)
    (hR : w.heap[R]? = some (.cells #[c0, c1, v, c3, c4, c5, c6, c7] 61 (0, 0))) (hown : w.ownsRow B 75 2 v n0 xs) (hBR : B ≤ R) (hB : B ≤ w.heap.size)
    (hb : w.heap[b]? = some (.cells (flatI its).toArray 75 (0, 0))) (hbv : some b ≠ v.ownBlock) (hn0 : n0 ≤ 1000000000) (hlen : its.length ≤ 1000) :
    Calls Tryd.prog 30 #[.pointer (some ⟨R, 0, none⟩), .slice (some ⟨b, 0, none⟩) its.length its.length] w fun e w' => (∃ r, e = .returned r) ∧
      ∃ v', w'.heap[R]? = some (.cells #[c0, c1, v', c3, c4, c5, c6, c7] 61 (0, 0)) ∧ w'.ownsRow B 75 2 v' (n0 + its.length) (xs ++ flatI its.reverse) ∧ Below B w w' ∧ K2 R v.ownBlock w w' ∧ (v'.ownBlock = v.ownBlock ∨ ∀ k, v'.ownBlock = some k → w.heap.size ≤ k) := by
  obtain ⟨i84, hi84, hz0, hz1, hz2⟩ := info_parts Tryd.info75
  refine (callsIn_wide (n := 4)).1 ?_
  refine callsIn_of_wp_marks Tryd.func30 rfl trivial ?_ rfl
  simp only [Tryd.ntmps30, List.size_toArray, List.length_cons, List.length_nil, Nat.reduceAdd, Nat.reduceSub, Array.replicate_succ, Array.replicate_zero, List.push_toArray, List.append_toArray, List.nil_append, List.cons_append]
  gi_wp2_with (refine ⟨trivial, ?_⟩; gi_at_call 44; refine (Backward_in Fence.wide _ trivial rfl _ _ _ _).mono ?_; rintro e w' ⟨rfl, rfl⟩)
  have hRlt := lt_of_block hR
  have hblt := lt_of_block hb
  have bX0 : Boxed ((w.alloc (.cells #[.pointer (some ⟨R, 0, none⟩)] 78)).alloc (.cells #[.slice (some ⟨b, 0, none⟩) its.length its.length] 54)) w.heap.size 78 (.pointer (some ⟨R, 0, none⟩)) := (Boxed.new w 78 _).alloc _
  have hBs : ((w.alloc (.cells #[.pointer (some ⟨R, 0, none⟩)] 78)).alloc (.cells #[.slice (some ⟨b, 0, none⟩) its.length its.length] 54)).heap[w.heap.size + 1]? = some (.cells #[.slice (some ⟨b, 0, none⟩) its.length its.length] 54 (0, 0)) := by
    have := World.alloc_heap_new (w.alloc (.cells #[.pointer (some ⟨R, 0, none⟩)] 78)) (.cells #[.slice (some ⟨b, 0, none⟩) its.length its.length] 54)
    rwa [World.size_alloc] at this
  have hg0 : w.grownBy ((w.alloc (.cells #[.pointer (some ⟨R, 0, none⟩)] 78)).alloc (.cells #[.slice (some ⟨b, 0, none⟩) its.length its.length] 54)) none := Lib.grownBy_trans (World.grownBy_alloc w _ none) (World.grownBy_alloc _ _ none)
  have hsz : ((w.alloc (.cells #[.pointer (some ⟨R, 0, none⟩)] 78)).alloc (.cells #[.slice (some ⟨b, 0, none⟩) its.length its.length] 54)).heap.size = w.heap.size + 2 := by simp
  have hBel0 : Below B w ((w.alloc (.cells #[.pointer (some ⟨R, 0, none⟩)] 78)).alloc (.cells #[.slice (some ⟨b, 0, none⟩) its.length its.length] 54)) := ((Below.refl _ w).alloc hB _).alloc (by simp; omega) _
  have hown0 := (hown.alloc (.cells #[.pointer (some ⟨R, 0, none⟩)] 78)).alloc (.cells #[.slice (some ⟨b, 0, none⟩) its.length its.length] 54)
  obtain ⟨W0, hW0⟩ : ∃ W0, (w.alloc (.cells #[.pointer (some ⟨R, 0, none⟩)] 78)).alloc (.cells #[.slice (some ⟨b, 0, none⟩) its.length its.length] 54) = W0 := ⟨_, rfl⟩
  rw [hW0] at bX0 hBs hg0 hsz hBel0 hown0 ⊢
  clear hW0
  have hR0 := (hg0.block R hRlt (by simp)).trans hR
  have hb0 := (hg0.block b hblt (by simp)).trans hb
  refine wpIn_rangeFunc_ownH rfl (by omega) (gf := 52) (lb := #[.pointer (some ⟨w.heap.size + 1, 0, none⟩)]) rfl trivial (enters_of Tryd.func52 (by kernel_rfl) rfl)
    (back_stops Fence.wide 3 trivial rfl (by omega) (w.heap.size + 1) b its hlen W0 hBs hb0) (fun h k => h.trans k)
    (fun W l o o' hl h1 _ _ => ⟨putObj_other W l b o' (by omega), putObj_other W l (w.heap.size + 1) o' (by omega)⟩) (Below.refl _ _) (fun _ => rfl)
    (MI B R w v c0 c1 c3 c4 c5 c6 c7 n0 xs) (fun _ _ _ => False) (MI_own B R w v c0 c1 c3 c4 c5 c6 c7 n0 xs W0.heap.size (by omega) hB) (fun _ _ _ _ _ hs _ _ => hs)
    ⟨v, hR0, by simpa [flatI] using hown0, bX0, hBel0, fun k hk _ _ => hg0.block k hk (by simp), .inl rfl, by omega⟩
    (fun x a' W => ∃ Bx, w.heap.size + 2 ≤ Bx ∧ W.heap[Bx]? = some (.cells #[.int .i64 x.2.m, .func x.2.fn x.2.first x.2.cap] 75 (0, 0)) ∧ a' = { tmps := #[.pointer (some ⟨R, 0, none⟩), .slice (some ⟨b, 0, none⟩) its.length its.length, .pointer (some ⟨w.heap.size, 0, none⟩), undef, undef, .pointer (some ⟨Bx, 0, none⟩), .slice (some ⟨b, 0, none⟩) its.length its.length, .func (.func 52) #[] #[.pointer (some ⟨w.heap.size + 1, 0, none⟩)], .int .i64 x.1, x.2.val, undef, undef, undef, undef, undef, undef, undef, undef, undef, undef], defers := [] })
    (fun x a' _ X Y row hs hg hr => by obtain ⟨Bx, h1, h2, h3⟩ := hs; exact ⟨Bx, h1, (hg.block Bx (lt_of_block h2) (fun e => by obtain ⟨_, o, ho, hc⟩ := hr Bx e.symm; rw [h2] at ho; cases ho; cases hc)).trans h2, h3⟩)
    ?assign ?body ?done ?stop
  case assign =>
    rintro l pre ⟨xi, xm, xf, xa, xc⟩ W K ⟨v', hR', hown', hbx, hbel, hk2, hfr, hsW⟩ hK
    simp only [IV.val] at hK ⊢
    gi_wp2
    refine hK _ _ ((KeepsOthers.alloc _ _).from _) ⟨?_, ?_⟩ ⟨v', block_keep _ hR', hown'.alloc _, hbx.alloc _, hbel.alloc (by omega) _, fun k hk h1 h2 => ?_, hfr, by simp; omega⟩ ⟨W.heap.size, hsW, block_new W _, rfl⟩
    · exact (World.grownBy_alloc W _ none).block b (by omega) (by simp)
    · exact (World.grownBy_alloc W _ none).block (w.heap.size + 1) (by omega) (by simp)
    · exact ((World.grownBy_alloc W _ none).block k (by omega) (by simp)).trans (hk2 k hk h1 h2)
  case body =>
    rintro l pre ⟨xi, xm, xf, xa, xc⟩ a' W hl ⟨r, hr⟩ ⟨v', hR', hown', hbx, hbel, hk2, hfr, hsW⟩ ⟨Bx, hBx, bX, rfl⟩ hlt
    simp only [IV.val] at bX ⊢
    have cR := hbx.cell
    have c2 : W.cell? ⟨R, 2, none⟩ = some v' := by simp [World.cell?, hR']
    have f2 : W.frozen? ⟨R, 2, none⟩ = false := by simp [World.frozen?, hR']
    have x0 : W.cell? ⟨Bx, 0, none⟩ = some (.int .i64 xm) := by simp [World.cell?, bX]
    have x1 : W.cell? ⟨Bx, 1, none⟩ = some (.func xf xa xc) := by simp [World.cell?, bX]
    have hmx : Tryd.prog.follows .mixedOrders = true := by kernel_rfl
    have hsz' := hbel.size
    gi_wp2
    refine wpIn_region_any hmx (anyIn_of_any l _ (fun ⟨_, _, h⟩ => h) ?nodefer _ _ _ _ ?anyorder)
    case nodefer =>
      intro i o ho c
      have : i < 11 := (Array.getElem?_eq_some_iff.1 ho).1
      match i, this with
      | 0, _ | 1, _ | 2, _ | 3, _ | 4, _ | 5, _ | 6, _ | 7, _ | 8, _ | 9, _ | 10, _ => cases ho; intro e; cases e
    case anyorder =>
      change wpAny _ _ _ _ _ _ _ (World.drew _)
      have hRrow : some R ≠ v'.ownBlock := fun e => by
        obtain ⟨c, fz, hc⟩ := own_kind hown' R e.symm
        rw [hR'] at hc; cases hc
      have hXrow : some w.heap.size ≠ v'.ownBlock := hbx.not_row (by decide) hown'
      have hbR : b ≠ R := fun e => by
        rw [e, hR] at hb
        injection hb with hb
        injection hb with _ hb _
        exact absurd hb (by decide)
      have hbv' : some b ≠ v'.ownBlock := fun e => by
        rcases hfr with h | h
        · exact hbv (e.trans h)
        · have := h b e.symm; omega
      have hsv' : some (w.heap.size + 1) ≠ v'.ownBlock := fun e => by
        rcases hfr with h | h
        · have := (hown.lt (w.heap.size + 1) (h.symm.trans e.symm)).2; omega
        · have := h _ e.symm; omega
      have hEnd : ∀ (g3 cap3 : Nat) (w3 : World), w3.ownsRow B 75 2 (.slice (some ⟨g3, 0, none⟩) (n0 + pre.length + 1) cap3) (n0 + pre.length + 1) (xs ++ flatI (pre.map (·.2)) ++ [.int .i64 xm, .func xf xa xc]) → (W.drew.alloc (.cells #[.int .i64 xm, .func xf xa xc] 75)).grownBy w3 v'.ownBlock → w3.heap[R]? = some (.cells #[c0, c1, v', c3, c4, c5, c6, c7] 61 (0, 0)) →
          ((Value.slice (some ⟨g3, 0, none⟩) (n0 + pre.length + 1) cap3).ownBlock = v'.ownBlock ∨ (Value.slice (some ⟨g3, 0, none⟩) (n0 + pre.length + 1) cap3).ownBlock = some (W.drew.alloc (.cells #[.int .i64 xm, .func xf xa xc] 75)).heap.size) →
          ownPostG W0.heap.size (KB b (w.heap.size + 1)) (MI B R w v c0 c1 c3 c4 c5 c6 c7 n0 xs) (fun _ _ _ => False) (pre ++ [(xi, ⟨xm, xf, xa, xc⟩)]) W .normal { tmps := #[], defers := [] } (w3.setCell ⟨R, 2, none⟩ (.slice (some ⟨g3, 0, none⟩) (n0 + pre.length + 1) cap3)) := by
        intro g3 cap3 w3 hown3 hgrow3 hR3 hat
        have hsz1 : (W.drew.alloc (.cells #[.int .i64 xm, .func xf xa xc] 75)).heap.size = W.heap.size + 1 := by simp
        have hold : ∀ k, k < W.heap.size → (W.drew.alloc (.cells #[.int .i64 xm, .func xf xa xc] 75)).heap[k]? = W.heap[k]? := fun k hk => (World.grownBy_alloc W.drew _ none).block k hk (by simp)
        have hkeep : ∀ k, k < W.heap.size → k ≠ R → some k ≠ v'.ownBlock → (w3.setCell ⟨R, 2, none⟩ (.slice (some ⟨g3, 0, none⟩) (n0 + pre.length + 1) cap3)).heap[k]? = W.heap[k]? := fun k hk h1 h2 => by
          rw [Below.heap_setCell _ _ _ _ h1, hgrow3.block k (by omega) h2, hold k hk]
        have hRg : R ≠ g3 := fun e => by
          obtain ⟨c, fz, hc⟩ := own_kind hown3 g3 rfl
          rw [← e, hR3] at hc; cases hc
        refine ⟨((((KeepsOthers.drew W).trans (KeepsOthers.alloc _ _)).trans (KeepsOthers.of_grownBy hgrow3 (fun j o e ho => ?_))).trans (KeepsOthers.setCell _ _ _)).from _, ⟨hkeep b (by omega) hbR hbv', hkeep (w.heap.size + 1) (by omega) (by omega) hsv'⟩, ?_⟩
        · obtain ⟨c, fz, hc⟩ := own_kind (hown'.drew.alloc (.cells #[.int .i64 xm, .func xf xa xc] 75)) j e
          rw [hc] at ho; cases ho; rfl
        · refine ⟨_, block_set hR3 2 _, ?_, (hkeep _ (by omega) (by omega) hXrow).trans hbx, ?_, fun k hk h1 h2 => ?_, ?_, ?_⟩
          · have := ownsRow_setCell_other hown3 (a := ⟨R, 2, none⟩) (fun e => hRg (by simpa [Value.ownBlock] using e.symm)) (.slice (some ⟨g3, 0, none⟩) (n0 + pre.length + 1) cap3)
            rw [List.length_append, List.map_append, flatI_append, ← List.append_assoc]
            exact this
          · exact (((hbel.drew).alloc (by show B ≤ W.heap.size; omega) _).grown hgrow3 (by simp; omega) (fun k hk => (hown'.lt k hk).1)).setCell hBR _
          · rw [hkeep k (by omega) h1 (fun e => by
              rcases hfr with h | h
              · exact h2 (e.trans h)
              · have := h k e.symm; omega), hk2 k hk h1 h2]
          · rcases hat with h | h
            · rw [h]; exact hfr
            · right
              intro k hk
              rw [h, hsz1] at hk
              cases hk; omega
          · have := hgrow3.size
            rw [hsz1] at this
            show w.heap.size + 2 ≤ (w3.setCell _ _).heap.size
            simp [World.setCell]; omega
      have aR : (W.alloc (.cells #[.int .i64 xm, .func xf xa xc] 75)).cell? ⟨R, 2, none⟩ = some v' := by simp [World.cell?, block_keep (.cells #[.int .i64 xm, .func xf xa xc] 75) hR']
      have aX : (W.alloc (.cells #[.int .i64 xm, .func xf xa xc] 75)).cell? ⟨w.heap.size, 0, none⟩ = some (.pointer (some ⟨R, 0, none⟩)) := (hbx.alloc _).cell
      --TREE
      refine wpAny_ready (rs := [0, 1, 5]) (by kernel_rfl) (by simp) (AllReady.cons rfl (fun K hK => ?_) (AllReady.cons rfl (fun K hK => ?_) (AllReady.cons rfl (fun K hK => ?_) AllReady.nil)))
      · go_simp
        refine hK _ _ ?_
        clear hK K
        refine wpAny_ready (rs := [1, 5]) (by kernel_rfl) (by simp) (AllReady.cons rfl (fun K hK => ?_) (AllReady.cons rfl (fun K hK => ?_) AllReady.nil))
        · go_simp
          refine hK _ _ ?_
          clear hK K
          refine wpAny_take (i := 2) (v := ?_) rfl (by kernel_rfl) (by kernel_rfl) (by kernel_rfl) (fun _ _ _ h => h) (Or.inl ⟨by rfl, ?_⟩) ?_
          rotate_left
          focus (intro w; go_simp; try with_reducible rfl)
          refine wpAny_take (i := 3) (v := ?_) rfl (by kernel_rfl) (by kernel_rfl) (by kernel_rfl) (fun _ _ _ h => h) (Or.inl ⟨by rfl, ?_⟩) ?_
          rotate_left
          focus (intro w; go_simp; try with_reducible rfl)
          refine wpAny_ready (rs := [4, 5]) (by kernel_rfl) (by simp) (AllReady.cons rfl (fun K hK => ?_) (AllReady.cons rfl (fun K hK => ?_) AllReady.nil))
          · go_simp
            refine hK _ _ ?_
            clear hK K
            refine wpAny_ready (rs := [5]) (by kernel_rfl) (by simp) (AllReady.cons rfl (fun K hK => ?_) AllReady.nil)
            · go_simp
              refine hK _ _ ?_
              clear hK K
              refine wpAny_ready (rs := [6]) (by kernel_rfl) (by simp) (AllReady.cons rfl (fun K hK => ?_) AllReady.nil)
              · go_simp
                refine hK _ _ ?_
                clear hK K
                refine wpAny_ready (rs := [7]) (by kernel_rfl) (by simp) (AllReady.cons rfl (fun K hK => ?_) AllReady.nil)
                · refine step_append_own rfl (.tmp 14) (.tmp 16) 54 rfl B 75 i84 (.agg #[.int .i64 0, .nilFunc]) 2 16 Tryd.underlying54 hi84 hz0 hz1 hz2 rfl (by decide) v' (n0 + pre.length) (xs ++ flatI (pre.map (·.2))) (by simp [Act.eval]) (hown'.drew.alloc _) ⟨W.heap.size, 0, none⟩ 1 1 [.int .i64 xm, .func xf xa xc] (by simp [Act.eval]) rfl (cell_two_at _ _ _ _ _ rfl) (fun x hx => by simp at hx; rcases hx with rfl | rfl <;> rfl) (by unfold maxLen; omega) (by omega) (by simp; omega) ?_
                  intro v2 w3 hown3 hgrow3 hat3
                  obtain ⟨g3, cap3, rfl, hcap3⟩ := own_form hown3 (by omega)
                  have hR3 := (hgrow3.block R (by simp; omega) hRrow).trans (block_keep (w := W.drew) _ hR')
                  have hX3 := (Boxed.alloc (show Boxed W.drew w.heap.size 78 (.pointer (some ⟨R, 0, none⟩)) from hbx) _).kept hgrow3 hXrow
                  have cX3 := hX3.cell
                  have c23 : w3.cell? ⟨R, 2, none⟩ = some v' := by simp [World.cell?, hR3]
                  have f23 : w3.frozen? ⟨R, 2, none⟩ = false := by simp [World.frozen?, hR3]
                  try go_simp
                  refine hK _ _ ?_
                  clear hK K
                  refine wpAny_take (i := 8) (v := ?_) rfl (by kernel_rfl) (by kernel_rfl) (by kernel_rfl) (fun _ _ _ h => h) (Or.inl ⟨by rfl, ?_⟩) ?_
                  rotate_left
                  focus (intro w; go_simp; try with_reducible rfl)
                  refine wpAny_take (i := 9) (v := ?_) rfl (by kernel_rfl) (by kernel_rfl) (by kernel_rfl) (fun _ _ _ h => h) (Or.inl ⟨by rfl, ?_⟩) ?_
                  rotate_left
                  focus (intro w; go_simp; try with_reducible rfl)
                  refine wpAny_ready (rs := [10]) (by kernel_rfl) (by simp) (AllReady.cons rfl (fun K hK => ?_) AllReady.nil)
                  go_simp
                  refine hK _ _ ?_
                  clear hK K
                  refine wpAny_done (by kernel_rfl) ?_ _
                  exact hEnd _ _ _ hown3 hgrow3 hR3 hat3
          · go_simp
            refine hK _ _ ?_
            clear hK K
            refine wpAny_ready (rs := [4, 6]) (by kernel_rfl) (by simp) (AllReady.cons rfl (fun K hK => ?_) (AllReady.cons rfl (fun K hK => ?_) AllReady.nil))
            · go_simp
              refine hK _ _ ?_
              clear hK K
              refine wpAny_ready (rs := [6]) (by kernel_rfl) (by simp) (AllReady.cons rfl (fun K hK => ?_) AllReady.nil)
              · go_simp
                refine hK _ _ ?_
                clear hK K
                refine wpAny_ready (rs := [7]) (by kernel_rfl) (by simp) (AllReady.cons rfl (fun K hK => ?_) AllReady.nil)
                · refine step_append_own rfl (.tmp 14) (.tmp 16) 54 rfl B 75 i84 (.agg #[.int .i64 0, .nilFunc]) 2 16 Tryd.underlying54 hi84 hz0 hz1 hz2 rfl (by decide) v' (n0 + pre.length) (xs ++ flatI (pre.map (·.2))) (by simp [Act.eval]) (hown'.drew.alloc _) ⟨W.heap.size, 0, none⟩ 1 1 [.int .i64 xm, .func xf xa xc] (by simp [Act.eval]) rfl (cell_two_at _ _ _ _ _ rfl) (fun x hx => by simp at hx; rcases hx with rfl | rfl <;> rfl) (by unfold maxLen; omega) (by omega) (by simp; omega) ?_
                  intro v2 w3 hown3 hgrow3 hat3
                  obtain ⟨g3, cap3, rfl, hcap3⟩ := own_form hown3 (by omega)
                  have hR3 := (hgrow3.block R (by simp; omega) hRrow).trans (block_keep (w := W.drew) _ hR')
                  have hX3 := (Boxed.alloc (show Boxed W.drew w.heap.size 78 (.pointer (some ⟨R, 0, none⟩)) from hbx) _).kept hgrow3 hXrow
                  have cX3 := hX3.cell
                  have c23 : w3.cell? ⟨R, 2, none⟩ = some v' := by simp [World.cell?, hR3]
                  have f23 : w3.frozen? ⟨R, 2, none⟩ = false := by simp [World.frozen?, hR3]
                  try go_simp
                  refine hK _ _ ?_
                  clear hK K
                  refine wpAny_take (i := 8) (v := ?_) rfl (by kernel_rfl) (by kernel_rfl) (by kernel_rfl) (fun _ _ _ h => h) (Or.inl ⟨by rfl, ?_⟩) ?_
                  rotate_left
                  focus (intro w; go_simp; try with_reducible rfl)
                  refine wpAny_take (i := 9) (v := ?_) rfl (by kernel_rfl) (by kernel_rfl) (by kernel_rfl) (fun _ _ _ h => h) (Or.inl ⟨by rfl, ?_⟩) ?_
                  rotate_left
                  focus (intro w; go_simp; try with_reducible rfl)
                  refine wpAny_ready (rs := [10]) (by kernel_rfl) (by simp) (AllReady.cons rfl (fun K hK => ?_) AllReady.nil)
                  go_simp
                  refine hK _ _ ?_
                  clear hK K
                  refine wpAny_done (by kernel_rfl) ?_ _
                  exact hEnd _ _ _ hown3 hgrow3 hR3 hat3
            · go_simp
              refine hK _ _ ?_
              clear hK K
              refine wpAny_ready (rs := [4]) (by kernel_rfl) (by simp) (AllReady.cons rfl (fun K hK => ?_) AllReady.nil)
              · go_simp
                refine hK _ _ ?_
                clear hK K
                refine wpAny_ready (rs := [7]) (by kernel_rfl) (by simp) (AllReady.cons rfl (fun K hK => ?_) AllReady.nil)
                · refine step_append_own rfl (.tmp 14) (.tmp 16) 54 rfl B 75 i84 (.agg #[.int .i64 0, .nilFunc]) 2 16 Tryd.underlying54 hi84 hz0 hz1 hz2 rfl (by decide) v' (n0 + pre.length) (xs ++ flatI (pre.map (·.2))) (by simp [Act.eval]) (hown'.drew.alloc _) ⟨W.heap.size, 0, none⟩ 1 1 [.int .i64 xm, .func xf xa xc] (by simp [Act.eval]) rfl (cell_two_at _ _ _ _ _ rfl) (fun x hx => by simp at hx; rcases hx with rfl | rfl <;> rfl) (by unfold maxLen; omega) (by omega) (by simp; omega) ?_
                  intro v2 w3 hown3 hgrow3 hat3
                  obtain ⟨g3, cap3, rfl, hcap3⟩ := own_form hown3 (by omega)
                  have hR3 := (hgrow3.block R (by simp; omega) hRrow).trans (block_keep (w := W.drew) _ hR')
                  have hX3 := (Boxed.alloc (show Boxed W.drew w.heap.size 78 (.pointer (some ⟨R, 0, none⟩)) from hbx) _).kept hgrow3 hXrow
                  have cX3 := hX3.cell
                  have c23 : w3.cell? ⟨R, 2, none⟩ = some v' := by simp [World.cell?, hR3]
                  have f23 : w3.frozen? ⟨R, 2, none⟩ = false := by simp [World.frozen?, hR3]
                  try go_simp
                  refine hK _ _ ?_
                  clear hK K
                  refine wpAny_take (i := 8) (v := ?_) rfl (by kernel_rfl) (by kernel_rfl) (by kernel_rfl) (fun _ _ _ h => h) (Or.inl ⟨by rfl, ?_⟩) ?_
                  rotate_left
                  focus (intro w; go_simp; try with_reducible rfl)
                  refine wpAny_take (i := 9) (v := ?_) rfl (by kernel_rfl) (by kernel_rfl) (by kernel_rfl) (fun _ _ _ h => h) (Or.inl ⟨by rfl, ?_⟩) ?_
                  rotate_left
                  focus (intro w; go_simp; try with_reducible rfl)
                  refine wpAny_ready (rs := [10]) (by kernel_rfl) (by simp) (AllReady.cons rfl (fun K hK => ?_) AllReady.nil)
                  go_simp
                  refine hK _ _ ?_
                  clear hK K
                  refine wpAny_done (by kernel_rfl) ?_ _
                  exact hEnd _ _ _ hown3 hgrow3 hR3 hat3
        · go_simp
          refine hK _ _ ?_
          clear hK K
          refine wpAny_ready (rs := [1, 6]) (by kernel_rfl) (by simp) (AllReady.cons rfl (fun K hK => ?_) (AllReady.cons rfl (fun K hK => ?_) AllReady.nil))
          · go_simp
            refine hK _ _ ?_
            clear hK K
            refine wpAny_take (i := 2) (v := ?_) rfl (by kernel_rfl) (by kernel_rfl) (by kernel_rfl) (fun _ _ _ h => h) (Or.inl ⟨by rfl, ?_⟩) ?_
            rotate_left
            focus (intro w; go_simp; try with_reducible rfl)
            refine wpAny_take (i := 3) (v := ?_) rfl (by kernel_rfl) (by kernel_rfl) (by kernel_rfl) (fun _ _ _ h => h) (Or.inl ⟨by rfl, ?_⟩) ?_
            rotate_left
            focus (intro w; go_simp; try with_reducible rfl)
            refine wpAny_ready (rs := [4, 6]) (by kernel_rfl) (by simp) (AllReady.cons rfl (fun K hK => ?_) (AllReady.cons rfl (fun K hK => ?_) AllReady.nil))
            · go_simp
              refine hK _ _ ?_
              clear hK K
              refine wpAny_ready (rs := [6]) (by kernel_rfl) (by simp) (AllReady.cons rfl (fun K hK => ?_) AllReady.nil)
              · go_simp
                refine hK _ _ ?_
                clear hK K
                refine wpAny_ready (rs := [7]) (by kernel_rfl) (by simp) (AllReady.cons rfl (fun K hK => ?_) AllReady.nil)
                · refine step_append_own rfl (.tmp 14) (.tmp 16) 54 rfl B 75 i84 (.agg #[.int .i64 0, .nilFunc]) 2 16 Tryd.underlying54 hi84 hz0 hz1 hz2 rfl (by decide) v' (n0 + pre.length) (xs ++ flatI (pre.map (·.2))) (by simp [Act.eval]) (hown'.drew.alloc _) ⟨W.heap.size, 0, none⟩ 1 1 [.int .i64 xm, .func xf xa xc] (by simp [Act.eval]) rfl (cell_two_at _ _ _ _ _ rfl) (fun x hx => by simp at hx; rcases hx with rfl | rfl <;> rfl) (by unfold maxLen; omega) (by omega) (by simp; omega) ?_
                  intro v2 w3 hown3 hgrow3 hat3
                  obtain ⟨g3, cap3, rfl, hcap3⟩ := own_form hown3 (by omega)
                  have hR3 := (hgrow3.block R (by simp; omega) hRrow).trans (block_keep (w := W.drew) _ hR')
                  have hX3 := (Boxed.alloc (show Boxed W.drew w.heap.size 78 (.pointer (some ⟨R, 0, none⟩)) from hbx) _).kept hgrow3 hXrow
                  have cX3 := hX3.cell
                  have c23 : w3.cell? ⟨R, 2, none⟩ = some v' := by simp [World.cell?, hR3]
                  have f23 : w3.frozen? ⟨R, 2, none⟩ = false := by simp [World.frozen?, hR3]
                  try go_simp
                  refine hK _ _ ?_
                  clear hK K
                  refine wpAny_take (i := 8) (v := ?_) rfl (by kernel_rfl) (by kernel_rfl) (by kernel_rfl) (fun _ _ _ h => h) (Or.inl ⟨by rfl, ?_⟩) ?_
                  rotate_left
                  focus (intro w; go_simp; try with_reducible rfl)
                  refine wpAny_take (i := 9) (v := ?_) rfl (by kernel_rfl) (by kernel_rfl) (by kernel_rfl) (fun _ _ _ h => h) (Or.inl ⟨by rfl, ?_⟩) ?_
                  rotate_left
                  focus (intro w; go_simp; try with_reducible rfl)
                  refine wpAny_ready (rs := [10]) (by kernel_rfl) (by simp) (AllReady.cons rfl (fun K hK => ?_) AllReady.nil)
                  go_simp
                  refine hK _ _ ?_
                  clear hK K
                  refine wpAny_done (by kernel_rfl) ?_ _
                  exact hEnd _ _ _ hown3 hgrow3 hR3 hat3
            · go_simp
              refine hK _ _ ?_
              clear hK K
              refine wpAny_ready (rs := [4]) (by kernel_rfl) (by simp) (AllReady.cons rfl (fun K hK => ?_) AllReady.nil)
              · go_simp
                refine hK _ _ ?_
                clear hK K
                refine wpAny_ready (rs := [7]) (by kernel_rfl) (by simp) (AllReady.cons rfl (fun K hK => ?_) AllReady.nil)
                · refine step_append_own rfl (.tmp 14) (.tmp 16) 54 rfl B 75 i84 (.agg #[.int .i64 0, .nilFunc]) 2 16 Tryd.underlying54 hi84 hz0 hz1 hz2 rfl (by decide) v' (n0 + pre.length) (xs ++ flatI (pre.map (·.2))) (by simp [Act.eval]) (hown'.drew.alloc _) ⟨W.heap.size, 0, none⟩ 1 1 [.int .i64 xm, .func xf xa xc] (by simp [Act.eval]) rfl (cell_two_at _ _ _ _ _ rfl) (fun x hx => by simp at hx; rcases hx with rfl | rfl <;> rfl) (by unfold maxLen; omega) (by omega) (by simp; omega) ?_
                  intro v2 w3 hown3 hgrow3 hat3
                  obtain ⟨g3, cap3, rfl, hcap3⟩ := own_form hown3 (by omega)
                  have hR3 := (hgrow3.block R (by simp; omega) hRrow).trans (block_keep (w := W.drew) _ hR')
                  have hX3 := (Boxed.alloc (show Boxed W.drew w.heap.size 78 (.pointer (some ⟨R, 0, none⟩)) from hbx) _).kept hgrow3 hXrow
                  have cX3 := hX3.cell
                  have c23 : w3.cell? ⟨R, 2, none⟩ = some v' := by simp [World.cell?, hR3]
                  have f23 : w3.frozen? ⟨R, 2, none⟩ = false := by simp [World.frozen?, hR3]
                  try go_simp
                  refine hK _ _ ?_
                  clear hK K
                  refine wpAny_take (i := 8) (v := ?_) rfl (by kernel_rfl) (by kernel_rfl) (by kernel_rfl) (fun _ _ _ h => h) (Or.inl ⟨by rfl, ?_⟩) ?_
                  rotate_left
                  focus (intro w; go_simp; try with_reducible rfl)
                  refine wpAny_take (i := 9) (v := ?_) rfl (by kernel_rfl) (by kernel_rfl) (by kernel_rfl) (fun _ _ _ h => h) (Or.inl ⟨by rfl, ?_⟩) ?_
                  rotate_left
                  focus (intro w; go_simp; try with_reducible rfl)
                  refine wpAny_ready (rs := [10]) (by kernel_rfl) (by simp) (AllReady.cons rfl (fun K hK => ?_) AllReady.nil)
                  go_simp
                  refine hK _ _ ?_
                  clear hK K
                  refine wpAny_done (by kernel_rfl) ?_ _
                  exact hEnd _ _ _ hown3 hgrow3 hR3 hat3
          · go_simp
            refine hK _ _ ?_
            clear hK K
            refine wpAny_ready (rs := [1]) (by kernel_rfl) (by simp) (AllReady.cons rfl (fun K hK => ?_) AllReady.nil)
            · go_simp
              refine hK _ _ ?_
              clear hK K
              refine wpAny_take (i := 2) (v := ?_) rfl (by kernel_rfl) (by kernel_rfl) (by kernel_rfl) (fun _ _ _ h => h) (Or.inl ⟨by rfl, ?_⟩) ?_
              rotate_left
              focus (intro w; go_simp; try with_reducible rfl)
              refine wpAny_take (i := 3) (v := ?_) rfl (by kernel_rfl) (by kernel_rfl) (by kernel_rfl) (fun _ _ _ h => h) (Or.inl ⟨by rfl, ?_⟩) ?_
              rotate_left
              focus (intro w; go_simp; try with_reducible rfl)
              refine wpAny_ready (rs := [4]) (by kernel_rfl) (by simp) (AllReady.cons rfl (fun K hK => ?_) AllReady.nil)
              · go_simp
                refine hK _ _ ?_
                clear hK K
                refine wpAny_ready (rs := [7]) (by kernel_rfl) (by simp) (AllReady.cons rfl (fun K hK => ?_) AllReady.nil)
                · refine step_append_own rfl (.tmp 14) (.tmp 16) 54 rfl B 75 i84 (.agg #[.int .i64 0, .nilFunc]) 2 16 Tryd.underlying54 hi84 hz0 hz1 hz2 rfl (by decide) v' (n0 + pre.length) (xs ++ flatI (pre.map (·.2))) (by simp [Act.eval]) (hown'.drew.alloc _) ⟨W.heap.size, 0, none⟩ 1 1 [.int .i64 xm, .func xf xa xc] (by simp [Act.eval]) rfl (cell_two_at _ _ _ _ _ rfl) (fun x hx => by simp at hx; rcases hx with rfl | rfl <;> rfl) (by unfold maxLen; omega) (by omega) (by simp; omega) ?_
                  intro v2 w3 hown3 hgrow3 hat3
                  obtain ⟨g3, cap3, rfl, hcap3⟩ := own_form hown3 (by omega)
                  have hR3 := (hgrow3.block R (by simp; omega) hRrow).trans (block_keep (w := W.drew) _ hR')
                  have hX3 := (Boxed.alloc (show Boxed W.drew w.heap.size 78 (.pointer (some ⟨R, 0, none⟩)) from hbx) _).kept hgrow3 hXrow
                  have cX3 := hX3.cell
                  have c23 : w3.cell? ⟨R, 2, none⟩ = some v' := by simp [World.cell?, hR3]
                  have f23 : w3.frozen? ⟨R, 2, none⟩ = false := by simp [World.frozen?, hR3]
                  try go_simp
                  refine hK _ _ ?_
                  clear hK K
                  refine wpAny_take (i := 8) (v := ?_) rfl (by kernel_rfl) (by kernel_rfl) (by kernel_rfl) (fun _ _ _ h => h) (Or.inl ⟨by rfl, ?_⟩) ?_
                  rotate_left
                  focus (intro w; go_simp; try with_reducible rfl)
                  refine wpAny_take (i := 9) (v := ?_) rfl (by kernel_rfl) (by kernel_rfl) (by kernel_rfl) (fun _ _ _ h => h) (Or.inl ⟨by rfl, ?_⟩) ?_
                  rotate_left
                  focus (intro w; go_simp; try with_reducible rfl)
                  refine wpAny_ready (rs := [10]) (by kernel_rfl) (by simp) (AllReady.cons rfl (fun K hK => ?_) AllReady.nil)
                  go_simp
                  refine hK _ _ ?_
                  clear hK K
                  refine wpAny_done (by kernel_rfl) ?_ _
                  exact hEnd _ _ _ hown3 hgrow3 hR3 hat3
      · go_simp
        refine hK _ _ ?_
        clear hK K
        refine wpAny_take (i := 2) (v := ?_) rfl (by kernel_rfl) (by kernel_rfl) (by kernel_rfl) (fun _ _ _ h => h) (Or.inl ⟨by rfl, ?_⟩) ?_
        rotate_left
        focus (intro w; go_simp; try with_reducible rfl)
        refine wpAny_take (i := 3) (v := ?_) rfl (by kernel_rfl) (by kernel_rfl) (by kernel_rfl) (fun _ _ _ h => h) (Or.inl ⟨by rfl, ?_⟩) ?_
        rotate_left
        focus (intro w; go_simp; try with_reducible rfl)
        refine wpAny_ready (rs := [0, 4, 5]) (by kernel_rfl) (by simp) (AllReady.cons rfl (fun K hK => ?_) (AllReady.cons rfl (fun K hK => ?_) (AllReady.cons rfl (fun K hK => ?_) AllReady.nil)))
        · go_simp
          refine hK _ _ ?_
          clear hK K
          refine wpAny_ready (rs := [4, 5]) (by kernel_rfl) (by simp) (AllReady.cons rfl (fun K hK => ?_) (AllReady.cons rfl (fun K hK => ?_) AllReady.nil))
          · go_simp
            refine hK _ _ ?_
            clear hK K
            refine wpAny_ready (rs := [5]) (by kernel_rfl) (by simp) (AllReady.cons rfl (fun K hK => ?_) AllReady.nil)
            · go_simp
              refine hK _ _ ?_
              clear hK K
              refine wpAny_ready (rs := [6]) (by kernel_rfl) (by simp) (AllReady.cons rfl (fun K hK => ?_) AllReady.nil)
              · go_simp
                refine hK _ _ ?_
                clear hK K
                refine wpAny_ready (rs := [7]) (by kernel_rfl) (by simp) (AllReady.cons rfl (fun K hK => ?_) AllReady.nil)
                · refine step_append_own rfl (.tmp 14) (.tmp 16) 54 rfl B 75 i84 (.agg #[.int .i64 0, .nilFunc]) 2 16 Tryd.underlying54 hi84 hz0 hz1 hz2 rfl (by decide) v' (n0 + pre.length) (xs ++ flatI (pre.map (·.2))) (by simp [Act.eval]) (hown'.drew.alloc _) ⟨W.heap.size, 0, none⟩ 1 1 [.int .i64 xm, .func xf xa xc] (by simp [Act.eval]) rfl (cell_two_at _ _ _ _ _ rfl) (fun x hx => by simp at hx; rcases hx with rfl | rfl <;> rfl) (by unfold maxLen; omega) (by omega) (by simp; omega) ?_
                  intro v2 w3 hown3 hgrow3 hat3
                  obtain ⟨g3, cap3, rfl, hcap3⟩ := own_form hown3 (by omega)
                  have hR3 := (hgrow3.block R (by simp; omega) hRrow).trans (block_keep (w := W.drew) _ hR')
                  have hX3 := (Boxed.alloc (show Boxed W.drew w.heap.size 78 (.pointer (some ⟨R, 0, none⟩)) from hbx) _).kept hgrow3 hXrow
                  have cX3 := hX3.cell
                  have c23 : w3.cell? ⟨R, 2, none⟩ = some v' := by simp [World.cell?, hR3]
                  have f23 : w3.frozen? ⟨R, 2, none⟩ = false := by simp [World.frozen?, hR3]
                  try go_simp
                  refine hK _ _ ?_
                  clear hK K
                  refine wpAny_take (i := 8) (v := ?_) rfl (by kernel_rfl) (by kernel_rfl) (by kernel_rfl) (fun _ _ _ h => h) (Or.inl ⟨by rfl, ?_⟩) ?_
                  rotate_left
                  focus (intro w; go_simp; try with_reducible rfl)
                  refine wpAny_take (i := 9) (v := ?_) rfl (by kernel_rfl) (by kernel_rfl) (by kernel_rfl) (fun _ _ _ h => h) (Or.inl ⟨by rfl, ?_⟩) ?_
                  rotate_left
                  focus (intro w; go_simp; try with_reducible rfl)
                  refine wpAny_ready (rs := [10]) (by kernel_rfl) (by simp) (AllReady.cons rfl (fun K hK => ?_) AllReady.nil)
                  go_simp
                  refine hK _ _ ?_
                  clear hK K
                  refine wpAny_done (by kernel_rfl) ?_ _
                  exact hEnd _ _ _ hown3 hgrow3 hR3 hat3
          · go_simp
            refine hK _ _ ?_
            clear hK K
            refine wpAny_ready (rs := [4, 6]) (by kernel_rfl) (by simp) (AllReady.cons rfl (fun K hK => ?_) (AllReady.cons rfl (fun K hK => ?_) AllReady.nil))
            · go_simp
              refine hK _ _ ?_
              clear hK K
              refine wpAny_ready (rs := [6]) (by kernel_rfl) (by simp) (AllReady.cons rfl (fun K hK => ?_) AllReady.nil)
              · go_simp
                refine hK _ _ ?_
                clear hK K
                refine wpAny_ready (rs := [7]) (by kernel_rfl) (by simp) (AllReady.cons rfl (fun K hK => ?_) AllReady.nil)
                · refine step_append_own rfl (.tmp 14) (.tmp 16) 54 rfl B 75 i84 (.agg #[.int .i64 0, .nilFunc]) 2 16 Tryd.underlying54 hi84 hz0 hz1 hz2 rfl (by decide) v' (n0 + pre.length) (xs ++ flatI (pre.map (·.2))) (by simp [Act.eval]) (hown'.drew.alloc _) ⟨W.heap.size, 0, none⟩ 1 1 [.int .i64 xm, .func xf xa xc] (by simp [Act.eval]) rfl (cell_two_at _ _ _ _ _ rfl) (fun x hx => by simp at hx; rcases hx with rfl | rfl <;> rfl) (by unfold maxLen; omega) (by omega) (by simp; omega) ?_
                  intro v2 w3 hown3 hgrow3 hat3
                  obtain ⟨g3, cap3, rfl, hcap3⟩ := own_form hown3 (by omega)
                  have hR3 := (hgrow3.block R (by simp; omega) hRrow).trans (block_keep (w := W.drew) _ hR')
                  have hX3 := (Boxed.alloc (show Boxed W.drew w.heap.size 78 (.pointer (some ⟨R, 0, none⟩)) from hbx) _).kept hgrow3 hXrow
                  have cX3 := hX3.cell
                  have c23 : w3.cell? ⟨R, 2, none⟩ = some v' := by simp [World.cell?, hR3]
                  have f23 : w3.frozen? ⟨R, 2, none⟩ = false := by simp [World.frozen?, hR3]
                  try go_simp
                  refine hK _ _ ?_
                  clear hK K
                  refine wpAny_take (i := 8) (v := ?_) rfl (by kernel_rfl) (by kernel_rfl) (by kernel_rfl) (fun _ _ _ h => h) (Or.inl ⟨by rfl, ?_⟩) ?_
                  rotate_left
                  focus (intro w; go_simp; try with_reducible rfl)
                  refine wpAny_take (i := 9) (v := ?_) rfl (by kernel_rfl) (by kernel_rfl) (by kernel_rfl) (fun _ _ _ h => h) (Or.inl ⟨by rfl, ?_⟩) ?_
                  rotate_left
                  focus (intro w; go_simp; try with_reducible rfl)
                  refine wpAny_ready (rs := [10]) (by kernel_rfl) (by simp) (AllReady.cons rfl (fun K hK => ?_) AllReady.nil)
                  go_simp
                  refine hK _ _ ?_
                  clear hK K
                  refine wpAny_done (by kernel_rfl) ?_ _
                  exact hEnd _ _ _ hown3 hgrow3 hR3 hat3
            · go_simp
              refine hK _ _ ?_
              clear hK K
              refine wpAny_ready (rs := [4]) (by kernel_rfl) (by simp) (AllReady.cons rfl (fun K hK => ?_) AllReady.nil)
              · go_simp
                refine hK _ _ ?_
                clear hK K
                refine wpAny_ready (rs := [7]) (by kernel_rfl) (by simp) (AllReady.cons rfl (fun K hK => ?_) AllReady.nil)
                · refine step_append_own rfl (.tmp 14) (.tmp 16) 54 rfl B 75 i84 (.agg #[.int .i64 0, .nilFunc]) 2 16 Tryd.underlying54 hi84 hz0 hz1 hz2 rfl (by decide) v' (n0 + pre.length) (xs ++ flatI (pre.map (·.2))) (by simp [Act.eval]) (hown'.drew.alloc _) ⟨W.heap.size, 0, none⟩ 1 1 [.int .i64 xm, .func xf xa xc] (by simp [Act.eval]) rfl (cell_two_at _ _ _ _ _ rfl) (fun x hx => by simp at hx; rcases hx with rfl | rfl <;> rfl) (by unfold maxLen; omega) (by omega) (by simp; omega) ?_
                  intro v2 w3 hown3 hgrow3 hat3
                  obtain ⟨g3, cap3, rfl, hcap3⟩ := own_form hown3 (by omega)
                  have hR3 := (hgrow3.block R (by simp; omega) hRrow).trans (block_keep (w := W.drew) _ hR')
                  have hX3 := (Boxed.alloc (show Boxed W.drew w.heap.size 78 (.pointer (some ⟨R, 0, none⟩)) from hbx) _).kept hgrow3 hXrow
                  have cX3 := hX3.cell
                  have c23 : w3.cell? ⟨R, 2, none⟩ = some v' := by simp [World.cell?, hR3]
                  have f23 : w3.frozen? ⟨R, 2, none⟩ = false := by simp [World.frozen?, hR3]
                  try go_simp
                  refine hK _ _ ?_
                  clear hK K
                  refine wpAny_take (i := 8) (v := ?_) rfl (by kernel_rfl) (by kernel_rfl) (by kernel_rfl) (fun _ _ _ h => h) (Or.inl ⟨by rfl, ?_⟩) ?_
                  rotate_left
                  focus (intro w; go_simp; try with_reducible rfl)
                  refine wpAny_take (i := 9) (v := ?_) rfl (by kernel_rfl) (by kernel_rfl) (by kernel_rfl) (fun _ _ _ h => h) (Or.inl ⟨by rfl, ?_⟩) ?_
                  rotate_left
                  focus (intro w; go_simp; try with_reducible rfl)
                  refine wpAny_ready (rs := [10]) (by kernel_rfl) (by simp) (AllReady.cons rfl (fun K hK => ?_) AllReady.nil)
                  go_simp
                  refine hK _ _ ?_
                  clear hK K
                  refine wpAny_done (by kernel_rfl) ?_ _
                  exact hEnd _ _ _ hown3 hgrow3 hR3 hat3
        · go_simp
          refine hK _ _ ?_
          clear hK K
          refine wpAny_ready (rs := [0, 5]) (by kernel_rfl) (by simp) (AllReady.cons rfl (fun K hK => ?_) (AllReady.cons rfl (fun K hK => ?_) AllReady.nil))
          · go_simp
            refine hK _ _ ?_
            clear hK K
            refine wpAny_ready (rs := [5]) (by kernel_rfl) (by simp) (AllReady.cons rfl (fun K hK => ?_) AllReady.nil)
            · go_simp
              refine hK _ _ ?_
              clear hK K
              refine wpAny_ready (rs := [6]) (by kernel_rfl) (by simp) (AllReady.cons rfl (fun K hK => ?_) AllReady.nil)
              · go_simp
                refine hK _ _ ?_
                clear hK K
                refine wpAny_ready (rs := [7]) (by kernel_rfl) (by simp) (AllReady.cons rfl (fun K hK => ?_) AllReady.nil)
                · refine step_append_own rfl (.tmp 14) (.tmp 16) 54 rfl B 75 i84 (.agg #[.int .i64 0, .nilFunc]) 2 16 Tryd.underlying54 hi84 hz0 hz1 hz2 rfl (by decide) v' (n0 + pre.length) (xs ++ flatI (pre.map (·.2))) (by simp [Act.eval]) (hown'.drew.alloc _) ⟨W.heap.size, 0, none⟩ 1 1 [.int .i64 xm, .func xf xa xc] (by simp [Act.eval]) rfl (cell_two_at _ _ _ _ _ rfl) (fun x hx => by simp at hx; rcases hx with rfl | rfl <;> rfl) (by unfold maxLen; omega) (by omega) (by simp; omega) ?_
                  intro v2 w3 hown3 hgrow3 hat3
                  obtain ⟨g3, cap3, rfl, hcap3⟩ := own_form hown3 (by omega)
                  have hR3 := (hgrow3.block R (by simp; omega) hRrow).trans (block_keep (w := W.drew) _ hR')
                  have hX3 := (Boxed.alloc (show Boxed W.drew w.heap.size 78 (.pointer (some ⟨R, 0, none⟩)) from hbx) _).kept hgrow3 hXrow
                  have cX3 := hX3.cell
                  have c23 : w3.cell? ⟨R, 2, none⟩ = some v' := by simp [World.cell?, hR3]
                  have f23 : w3.frozen? ⟨R, 2, none⟩ = false := by simp [World.frozen?, hR3]
                  try go_simp
                  refine hK _ _ ?_
                  clear hK K
                  refine wpAny_take (i := 8) (v := ?_) rfl (by kernel_rfl) (by kernel_rfl) (by kernel_rfl) (fun _ _ _ h => h) (Or.inl ⟨by rfl, ?_⟩) ?_
                  rotate_left
                  focus (intro w; go_simp; try with_reducible rfl)
                  refine wpAny_take (i := 9) (v := ?_) rfl (by kernel_rfl) (by kernel_rfl) (by kernel_rfl) (fun _ _ _ h => h) (Or.inl ⟨by rfl, ?_⟩) ?_
                  rotate_left
                  focus (intro w; go_simp; try with_reducible rfl)
                  refine wpAny_ready (rs := [10]) (by kernel_rfl) (by simp) (AllReady.cons rfl (fun K hK => ?_) AllReady.nil)
                  go_simp
                  refine hK _ _ ?_
                  clear hK K
                  refine wpAny_done (by kernel_rfl) ?_ _
                  exact hEnd _ _ _ hown3 hgrow3 hR3 hat3
          · go_simp
            refine hK _ _ ?_
            clear hK K
            refine wpAny_ready (rs := [0, 6]) (by kernel_rfl) (by simp) (AllReady.cons rfl (fun K hK => ?_) (AllReady.cons rfl (fun K hK => ?_) AllReady.nil))
            · go_simp
              refine hK _ _ ?_
              clear hK K
              refine wpAny_ready (rs := [6]) (by kernel_rfl) (by simp) (AllReady.cons rfl (fun K hK => ?_) AllReady.nil)
              · go_simp
                refine hK _ _ ?_
                clear hK K
                refine wpAny_ready (rs := [7]) (by kernel_rfl) (by simp) (AllReady.cons rfl (fun K hK => ?_) AllReady.nil)
                · refine step_append_own rfl (.tmp 14) (.tmp 16) 54 rfl B 75 i84 (.agg #[.int .i64 0, .nilFunc]) 2 16 Tryd.underlying54 hi84 hz0 hz1 hz2 rfl (by decide) v' (n0 + pre.length) (xs ++ flatI (pre.map (·.2))) (by simp [Act.eval]) (hown'.drew.alloc _) ⟨W.heap.size, 0, none⟩ 1 1 [.int .i64 xm, .func xf xa xc] (by simp [Act.eval]) rfl (cell_two_at _ _ _ _ _ rfl) (fun x hx => by simp at hx; rcases hx with rfl | rfl <;> rfl) (by unfold maxLen; omega) (by omega) (by simp; omega) ?_
                  intro v2 w3 hown3 hgrow3 hat3
                  obtain ⟨g3, cap3, rfl, hcap3⟩ := own_form hown3 (by omega)
                  have hR3 := (hgrow3.block R (by simp; omega) hRrow).trans (block_keep (w := W.drew) _ hR')
                  have hX3 := (Boxed.alloc (show Boxed W.drew w.heap.size 78 (.pointer (some ⟨R, 0, none⟩)) from hbx) _).kept hgrow3 hXrow
                  have cX3 := hX3.cell
                  have c23 : w3.cell? ⟨R, 2, none⟩ = some v' := by simp [World.cell?, hR3]
                  have f23 : w3.frozen? ⟨R, 2, none⟩ = false := by simp [World.frozen?, hR3]
                  try go_simp
                  refine hK _ _ ?_
                  clear hK K
                  refine wpAny_take (i := 8) (v := ?_) rfl (by kernel_rfl) (by kernel_rfl) (by kernel_rfl) (fun _ _ _ h => h) (Or.inl ⟨by rfl, ?_⟩) ?_
                  rotate_left
                  focus (intro w; go_simp; try with_reducible rfl)
                  refine wpAny_take (i := 9) (v := ?_) rfl (by kernel_rfl) (by kernel_rfl) (by kernel_rfl) (fun _ _ _ h => h) (Or.inl ⟨by rfl, ?_⟩) ?_
                  rotate_left
                  focus (intro w; go_simp; try with_reducible rfl)
                  refine wpAny_ready (rs := [10]) (by kernel_rfl) (by simp) (AllReady.cons rfl (fun K hK => ?_) AllReady.nil)
                  go_simp
                  refine hK _ _ ?_
                  clear hK K
                  refine wpAny_done (by kernel_rfl) ?_ _
                  exact hEnd _ _ _ hown3 hgrow3 hR3 hat3
            · go_simp
              refine hK _ _ ?_
              clear hK K
              refine wpAny_ready (rs := [0, 7]) (by kernel_rfl) (by simp) (AllReady.cons rfl (fun K hK => ?_) (AllReady.cons rfl (fun K hK => ?_) AllReady.nil))
              · go_simp
                refine hK _ _ ?_
                clear hK K
                refine wpAny_ready (rs := [7]) (by kernel_rfl) (by simp) (AllReady.cons rfl (fun K hK => ?_) AllReady.nil)
                · refine step_append_own rfl (.tmp 14) (.tmp 16) 54 rfl B 75 i84 (.agg #[.int .i64 0, .nilFunc]) 2 16 Tryd.underlying54 hi84 hz0 hz1 hz2 rfl (by decide) v' (n0 + pre.length) (xs ++ flatI (pre.map (·.2))) (by simp [Act.eval]) (hown'.drew.alloc _) ⟨W.heap.size, 0, none⟩ 1 1 [.int .i64 xm, .func xf xa xc] (by simp [Act.eval]) rfl (cell_two_at _ _ _ _ _ rfl) (fun x hx => by simp at hx; rcases hx with rfl | rfl <;> rfl) (by unfold maxLen; omega) (by omega) (by simp; omega) ?_
                  intro v2 w3 hown3 hgrow3 hat3
                  obtain ⟨g3, cap3, rfl, hcap3⟩ := own_form hown3 (by omega)
                  have hR3 := (hgrow3.block R (by simp; omega) hRrow).trans (block_keep (w := W.drew) _ hR')
                  have hX3 := (Boxed.alloc (show Boxed W.drew w.heap.size 78 (.pointer (some ⟨R, 0, none⟩)) from hbx) _).kept hgrow3 hXrow
                  have cX3 := hX3.cell
                  have c23 : w3.cell? ⟨R, 2, none⟩ = some v' := by simp [World.cell?, hR3]
                  have f23 : w3.frozen? ⟨R, 2, none⟩ = false := by simp [World.frozen?, hR3]
                  try go_simp
                  refine hK _ _ ?_
                  clear hK K
                  refine wpAny_take (i := 8) (v := ?_) rfl (by kernel_rfl) (by kernel_rfl) (by kernel_rfl) (fun _ _ _ h => h) (Or.inl ⟨by rfl, ?_⟩) ?_
                  rotate_left
                  focus (intro w; go_simp; try with_reducible rfl)
                  refine wpAny_take (i := 9) (v := ?_) rfl (by kernel_rfl) (by kernel_rfl) (by kernel_rfl) (fun _ _ _ h => h) (Or.inl ⟨by rfl, ?_⟩) ?_
                  rotate_left
                  focus (intro w; go_simp; try with_reducible rfl)
                  refine wpAny_ready (rs := [10]) (by kernel_rfl) (by simp) (AllReady.cons rfl (fun K hK => ?_) AllReady.nil)
                  go_simp
                  refine hK _ _ ?_
                  clear hK K
                  refine wpAny_done (by kernel_rfl) ?_ _
                  exact hEnd _ _ _ hown3 hgrow3 hR3 hat3
              · refine step_append_own rfl (.tmp 14) (.tmp 16) 54 rfl B 75 i84 (.agg #[.int .i64 0, .nilFunc]) 2 16 Tryd.underlying54 hi84 hz0 hz1 hz2 rfl (by decide) v' (n0 + pre.length) (xs ++ flatI (pre.map (·.2))) (by simp [Act.eval]) (hown'.drew.alloc _) ⟨W.heap.size, 0, none⟩ 1 1 [.int .i64 xm, .func xf xa xc] (by simp [Act.eval]) rfl (cell_two_at _ _ _ _ _ rfl) (fun x hx => by simp at hx; rcases hx with rfl | rfl <;> rfl) (by unfold maxLen; omega) (by omega) (by simp; omega) ?_
                intro v2 w3 hown3 hgrow3 hat3
                obtain ⟨g3, cap3, rfl, hcap3⟩ := own_form hown3 (by omega)
                have hR3 := (hgrow3.block R (by simp; omega) hRrow).trans (block_keep (w := W.drew) _ hR')
                have hX3 := (Boxed.alloc (show Boxed W.drew w.heap.size 78 (.pointer (some ⟨R, 0, none⟩)) from hbx) _).kept hgrow3 hXrow
                have cX3 := hX3.cell
                have c23 : w3.cell? ⟨R, 2, none⟩ = some v' := by simp [World.cell?, hR3]
                have f23 : w3.frozen? ⟨R, 2, none⟩ = false := by simp [World.frozen?, hR3]
                try go_simp
                refine hK _ _ ?_
                clear hK K
                refine wpAny_ready (rs := [0]) (by kernel_rfl) (by simp) (AllReady.cons rfl (fun K hK => ?_) AllReady.nil)
                · go_simp
                  refine hK _ _ ?_
                  clear hK K
                  refine wpAny_take (i := 8) (v := ?_) rfl (by kernel_rfl) (by kernel_rfl) (by kernel_rfl) (fun _ _ _ h => h) (Or.inl ⟨by rfl, ?_⟩) ?_
                  rotate_left
                  focus (intro w; go_simp; try with_reducible rfl)
                  refine wpAny_take (i := 9) (v := ?_) rfl (by kernel_rfl) (by kernel_rfl) (by kernel_rfl) (fun _ _ _ h => h) (Or.inl ⟨by rfl, ?_⟩) ?_
                  rotate_left
                  focus (intro w; go_simp; try with_reducible rfl)
                  refine wpAny_ready (rs := [10]) (by kernel_rfl) (by simp) (AllReady.cons rfl (fun K hK => ?_) AllReady.nil)
                  go_simp
                  refine hK _ _ ?_
                  clear hK K
                  refine wpAny_done (by kernel_rfl) ?_ _
                  exact hEnd _ _ _ hown3 hgrow3 hR3 hat3
        · go_simp
          refine hK _ _ ?_
          clear hK K
          refine wpAny_ready (rs := [0, 4, 6]) (by kernel_rfl) (by simp) (AllReady.cons rfl (fun K hK => ?_) (AllReady.cons rfl (fun K hK => ?_) (AllReady.cons rfl (fun K hK => ?_) AllReady.nil)))
          · go_simp
            refine hK _ _ ?_
            clear hK K
            refine wpAny_ready (rs := [4, 6]) (by kernel_rfl) (by simp) (AllReady.cons rfl (fun K hK => ?_) (AllReady.cons rfl (fun K hK => ?_) AllReady.nil))
            · go_simp
              refine hK _ _ ?_
              clear hK K
              refine wpAny_ready (rs := [6]) (by kernel_rfl) (by simp) (AllReady.cons rfl (fun K hK => ?_) AllReady.nil)
              · go_simp
                refine hK _ _ ?_
                clear hK K
                refine wpAny_ready (rs := [7]) (by kernel_rfl) (by simp) (AllReady.cons rfl (fun K hK => ?_) AllReady.nil)
                · refine step_append_own rfl (.tmp 14) (.tmp 16) 54 rfl B 75 i84 (.agg #[.int .i64 0, .nilFunc]) 2 16 Tryd.underlying54 hi84 hz0 hz1 hz2 rfl (by decide) v' (n0 + pre.length) (xs ++ flatI (pre.map (·.2))) (by simp [Act.eval]) (hown'.drew.alloc _) ⟨W.heap.size, 0, none⟩ 1 1 [.int .i64 xm, .func xf xa xc] (by simp [Act.eval]) rfl (cell_two_at _ _ _ _ _ rfl) (fun x hx => by simp at hx; rcases hx with rfl | rfl <;> rfl) (by unfold maxLen; omega) (by omega) (by simp; omega) ?_
                  intro v2 w3 hown3 hgrow3 hat3
                  obtain ⟨g3, cap3, rfl, hcap3⟩ := own_form hown3 (by omega)
                  have hR3 := (hgrow3.block R (by simp; omega) hRrow).trans (block_keep (w := W.drew) _ hR')
                  have hX3 := (Boxed.alloc (show Boxed W.drew w.heap.size 78 (.pointer (some ⟨R, 0, none⟩)) from hbx) _).kept hgrow3 hXrow
                  have cX3 := hX3.cell
                  have c23 : w3.cell? ⟨R, 2, none⟩ = some v' := by simp [World.cell?, hR3]
                  have f23 : w3.frozen? ⟨R, 2, none⟩ = false := by simp [World.frozen?, hR3]
                  try go_simp
                  refine hK _ _ ?_
                  clear hK K
                  refine wpAny_take (i := 8) (v := ?_) rfl (by kernel_rfl) (by kernel_rfl) (by kernel_rfl) (fun _ _ _ h => h) (Or.inl ⟨by rfl, ?_⟩) ?_
                  rotate_left
                  focus (intro w; go_simp; try with_reducible rfl)
                  refine wpAny_take (i := 9) (v := ?_) rfl (by kernel_rfl) (by kernel_rfl) (by kernel_rfl) (fun _ _ _ h => h) (Or.inl ⟨by rfl, ?_⟩) ?_
                  rotate_left
                  focus (intro w; go_simp; try with_reducible rfl)
                  refine wpAny_ready (rs := [10]) (by kernel_rfl) (by simp) (AllReady.cons rfl (fun K hK => ?_) AllReady.nil)
                  go_simp
                  refine hK _ _ ?_
                  clear hK K
                  refine wpAny_done (by kernel_rfl) ?_ _
                  exact hEnd _ _ _ hown3 hgrow3 hR3 hat3
            · go_simp
              refine hK _ _ ?_
              clear hK K
              refine wpAny_ready (rs := [4]) (by kernel_rfl) (by simp) (AllReady.cons rfl (fun K hK => ?_) AllReady.nil)
              · go_simp
                refine hK _ _ ?_
                clear hK K
                refine wpAny_ready (rs := [7]) (by kernel_rfl) (by simp) (AllReady.cons rfl (fun K hK => ?_) AllReady.nil)
                · refine step_append_own rfl (.tmp 14) (.tmp 16) 54 rfl B 75 i84 (.agg #[.int .i64 0, .nilFunc]) 2 16 Tryd.underlying54 hi84 hz0 hz1 hz2 rfl (by decide) v' (n0 + pre.length) (xs ++ flatI (pre.map (·.2))) (by simp [Act.eval]) (hown'.drew.alloc _) ⟨W.heap.size, 0, none⟩ 1 1 [.int .i64 xm, .func xf xa xc] (by simp [Act.eval]) rfl (cell_two_at _ _ _ _ _ rfl) (fun x hx => by simp at hx; rcases hx with rfl | rfl <;> rfl) (by unfold maxLen; omega) (by omega) (by simp; omega) ?_
                  intro v2 w3 hown3 hgrow3 hat3
                  obtain ⟨g3, cap3, rfl, hcap3⟩ := own_form hown3 (by omega)
                  have hR3 := (hgrow3.block R (by simp; omega) hRrow).trans (block_keep (w := W.drew) _ hR')
                  have hX3 := (Boxed.alloc (show Boxed W.drew w.heap.size 78 (.pointer (some ⟨R, 0, none⟩)) from hbx) _).kept hgrow3 hXrow
                  have cX3 := hX3.cell
                  have c23 : w3.cell? ⟨R, 2, none⟩ = some v' := by simp [World.cell?, hR3]
                  have f23 : w3.frozen? ⟨R, 2, none⟩ = false := by simp [World.frozen?, hR3]
                  try go_simp
                  refine hK _ _ ?_
                  clear hK K
                  refine wpAny_take (i := 8) (v := ?_) rfl (by kernel_rfl) (by kernel_rfl) (by kernel_rfl) (fun _ _ _ h => h) (Or.inl ⟨by rfl, ?_⟩) ?_
                  rotate_left
                  focus (intro w; go_simp; try with_reducible rfl)
                  refine wpAny_take (i := 9) (v := ?_) rfl (by kernel_rfl) (by kernel_rfl) (by kernel_rfl) (fun _ _ _ h => h) (Or.inl ⟨by rfl, ?_⟩) ?_
                  rotate_left
                  focus (intro w; go_simp; try with_reducible rfl)
                  refine wpAny_ready (rs := [10]) (by kernel_rfl) (by simp) (AllReady.cons rfl (fun K hK => ?_) AllReady.nil)
                  go_simp
                  refine hK _ _ ?_
                  clear hK K
                  refine wpAny_done (by kernel_rfl) ?_ _
                  exact hEnd _ _ _ hown3 hgrow3 hR3 hat3
          · go_simp
            refine hK _ _ ?_
            clear hK K
            refine wpAny_ready (rs := [0, 6]) (by kernel_rfl) (by simp) (AllReady.cons rfl (fun K hK => ?_) (AllReady.cons rfl (fun K hK => ?_) AllReady.nil))
            · go_simp
              refine hK _ _ ?_
              clear hK K
              refine wpAny_ready (rs := [6]) (by kernel_rfl) (by simp) (AllReady.cons rfl (fun K hK => ?_) AllReady.nil)
              · go_simp
                refine hK _ _ ?_
                clear hK K
                refine wpAny_ready (rs := [7]) (by kernel_rfl) (by simp) (AllReady.cons rfl (fun K hK => ?_) AllReady.nil)
                · refine step_append_own rfl (.tmp 14) (.tmp 16) 54 rfl B 75 i84 (.agg #[.int .i64 0, .nilFunc]) 2 16 Tryd.underlying54 hi84 hz0 hz1 hz2 rfl (by decide) v' (n0 + pre.length) (xs ++ flatI (pre.map (·.2))) (by simp [Act.eval]) (hown'.drew.alloc _) ⟨W.heap.size, 0, none⟩ 1 1 [.int .i64 xm, .func xf xa xc] (by simp [Act.eval]) rfl (cell_two_at _ _ _ _ _ rfl) (fun x hx => by simp at hx; rcases hx with rfl | rfl <;> rfl) (by unfold maxLen; omega) (by omega) (by simp; omega) ?_
                  intro v2 w3 hown3 hgrow3 hat3
                  obtain ⟨g3, cap3, rfl, hcap3⟩ := own_form hown3 (by omega)
                  have hR3 := (hgrow3.block R (by simp; omega) hRrow).trans (block_keep (w := W.drew) _ hR')
                  have hX3 := (Boxed.alloc (show Boxed W.drew w.heap.size 78 (.pointer (some ⟨R, 0, none⟩)) from hbx) _).kept hgrow3 hXrow
                  have cX3 := hX3.cell
                  have c23 : w3.cell? ⟨R, 2, none⟩ = some v' := by simp [World.cell?, hR3]
                  have f23 : w3.frozen? ⟨R, 2, none⟩ = false := by simp [World.frozen?, hR3]
                  try go_simp
                  refine hK _ _ ?_
                  clear hK K
                  refine wpAny_take (i := 8) (v := ?_) rfl (by kernel_rfl) (by kernel_rfl) (by kernel_rfl) (fun _ _ _ h => h) (Or.inl ⟨by rfl, ?_⟩) ?_
                  rotate_left
                  focus (intro w; go_simp; try with_reducible rfl)
                  refine wpAny_take (i := 9) (v := ?_) rfl (by kernel_rfl) (by kernel_rfl) (by kernel_rfl) (fun _ _ _ h => h) (Or.inl ⟨by rfl, ?_⟩) ?_
                  rotate_left
                  focus (intro w; go_simp; try with_reducible rfl)
                  refine wpAny_ready (rs := [10]) (by kernel_rfl) (by simp) (AllReady.cons rfl (fun K hK => ?_) AllReady.nil)
                  go_simp
                  refine hK _ _ ?_
                  clear hK K
                  refine wpAny_done (by kernel_rfl) ?_ _
                  exact hEnd _ _ _ hown3 hgrow3 hR3 hat3
            · go_simp
              refine hK _ _ ?_
              clear hK K
              refine wpAny_ready (rs := [0, 7]) (by kernel_rfl) (by simp) (AllReady.cons rfl (fun K hK => ?_) (AllReady.cons rfl (fun K hK => ?_) AllReady.nil))
              · go_simp
                refine hK _ _ ?_
                clear hK K
                refine wpAny_ready (rs := [7]) (by kernel_rfl) (by simp) (AllReady.cons rfl (fun K hK => ?_) AllReady.nil)
                · refine step_append_own rfl (.tmp 14) (.tmp 16) 54 rfl B 75 i84 (.agg #[.int .i64 0, .nilFunc]) 2 16 Tryd.underlying54 hi84 hz0 hz1 hz2 rfl (by decide) v' (n0 + pre.length) (xs ++ flatI (pre.map (·.2))) (by simp [Act.eval]) (hown'.drew.alloc _) ⟨W.heap.size, 0, none⟩ 1 1 [.int .i64 xm, .func xf xa xc] (by simp [Act.eval]) rfl (cell_two_at _ _ _ _ _ rfl) (fun x hx => by simp at hx; rcases hx with rfl | rfl <;> rfl) (by unfold maxLen; omega) (by omega) (by simp; omega) ?_
                  intro v2 w3 hown3 hgrow3 hat3
                  obtain ⟨g3, cap3, rfl, hcap3⟩ := own_form hown3 (by omega)
                  have hR3 := (hgrow3.block R (by simp; omega) hRrow).trans (block_keep (w := W.drew) _ hR')
                  have hX3 := (Boxed.alloc (show Boxed W.drew w.heap.size 78 (.pointer (some ⟨R, 0, none⟩)) from hbx) _).kept hgrow3 hXrow
                  have cX3 := hX3.cell
                  have c23 : w3.cell? ⟨R, 2, none⟩ = some v' := by simp [World.cell?, hR3]
                  have f23 : w3.frozen? ⟨R, 2, none⟩ = false := by simp [World.frozen?, hR3]
                  try go_simp
                  refine hK _ _ ?_
                  clear hK K
                  refine wpAny_take (i := 8) (v := ?_) rfl (by kernel_rfl) (by kernel_rfl) (by kernel_rfl) (fun _ _ _ h => h) (Or.inl ⟨by rfl, ?_⟩) ?_
                  rotate_left
                  focus (intro w; go_simp; try with_reducible rfl)
                  refine wpAny_take (i := 9) (v := ?_) rfl (by kernel_rfl) (by kernel_rfl) (by kernel_rfl) (fun _ _ _ h => h) (Or.inl ⟨by rfl, ?_⟩) ?_
                  rotate_left
                  focus (intro w; go_simp; try with_reducible rfl)
                  refine wpAny_ready (rs := [10]) (by kernel_rfl) (by simp) (AllReady.cons rfl (fun K hK => ?_) AllReady.nil)
                  go_simp
                  refine hK _ _ ?_
                  clear hK K
                  refine wpAny_done (by kernel_rfl) ?_ _
                  exact hEnd _ _ _ hown3 hgrow3 hR3 hat3
              · refine step_append_own rfl (.tmp 14) (.tmp 16) 54 rfl B 75 i84 (.agg #[.int .i64 0, .nilFunc]) 2 16 Tryd.underlying54 hi84 hz0 hz1 hz2 rfl (by decide) v' (n0 + pre.length) (xs ++ flatI (pre.map (·.2))) (by simp [Act.eval]) (hown'.drew.alloc _) ⟨W.heap.size, 0, none⟩ 1 1 [.int .i64 xm, .func xf xa xc] (by simp [Act.eval]) rfl (cell_two_at _ _ _ _ _ rfl) (fun x hx => by simp at hx; rcases hx with rfl | rfl <;> rfl) (by unfold maxLen; omega) (by omega) (by simp; omega) ?_
                intro v2 w3 hown3 hgrow3 hat3
                obtain ⟨g3, cap3, rfl, hcap3⟩ := own_form hown3 (by omega)
                have hR3 := (hgrow3.block R (by simp; omega) hRrow).trans (block_keep (w := W.drew) _ hR')
                have hX3 := (Boxed.alloc (show Boxed W.drew w.heap.size 78 (.pointer (some ⟨R, 0, none⟩)) from hbx) _).kept hgrow3 hXrow
                have cX3 := hX3.cell
                have c23 : w3.cell? ⟨R, 2, none⟩ = some v' := by simp [World.cell?, hR3]
                have f23 : w3.frozen? ⟨R, 2, none⟩ = false := by simp [World.frozen?, hR3]
                try go_simp
                refine hK _ _ ?_
                clear hK K
                refine wpAny_ready (rs := [0]) (by kernel_rfl) (by simp) (AllReady.cons rfl (fun K hK => ?_) AllReady.nil)
                · go_simp
                  refine hK _ _ ?_
                  clear hK K
                  refine wpAny_take (i := 8) (v := ?_) rfl (by kernel_rfl) (by kernel_rfl) (by kernel_rfl) (fun _ _ _ h => h) (Or.inl ⟨by rfl, ?_⟩) ?_
                  rotate_left
                  focus (intro w; go_simp; try with_reducible rfl)
                  refine wpAny_take (i := 9) (v := ?_) rfl (by kernel_rfl) (by kernel_rfl) (by kernel_rfl) (fun _ _ _ h => h) (Or.inl ⟨by rfl, ?_⟩) ?_
                  rotate_left
                  focus (intro w; go_simp; try with_reducible rfl)
                  refine wpAny_ready (rs := [10]) (by kernel_rfl) (by simp) (AllReady.cons rfl (fun K hK => ?_) AllReady.nil)
                  go_simp
                  refine hK _ _ ?_
                  clear hK K
                  refine wpAny_done (by kernel_rfl) ?_ _
                  exact hEnd _ _ _ hown3 hgrow3 hR3 hat3
          · go_simp
            refine hK _ _ ?_
            clear hK K
            refine wpAny_ready (rs := [0, 4]) (by kernel_rfl) (by simp) (AllReady.cons rfl (fun K hK => ?_) (AllReady.cons rfl (fun K hK => ?_) AllReady.nil))
            · go_simp
              refine hK _ _ ?_
              clear hK K
              refine wpAny_ready (rs := [4]) (by kernel_rfl) (by simp) (AllReady.cons rfl (fun K hK => ?_) AllReady.nil)
              · go_simp
                refine hK _ _ ?_
                clear hK K
                refine wpAny_ready (rs := [7]) (by kernel_rfl) (by simp) (AllReady.cons rfl (fun K hK => ?_) AllReady.nil)
                · refine step_append_own rfl (.tmp 14) (.tmp 16) 54 rfl B 75 i84 (.agg #[.int .i64 0, .nilFunc]) 2 16 Tryd.underlying54 hi84 hz0 hz1 hz2 rfl (by decide) v' (n0 + pre.length) (xs ++ flatI (pre.map (·.2))) (by simp [Act.eval]) (hown'.drew.alloc _) ⟨W.heap.size, 0, none⟩ 1 1 [.int .i64 xm, .func xf xa xc] (by simp [Act.eval]) rfl (cell_two_at _ _ _ _ _ rfl) (fun x hx => by simp at hx; rcases hx with rfl | rfl <;> rfl) (by unfold maxLen; omega) (by omega) (by simp; omega) ?_
                  intro v2 w3 hown3 hgrow3 hat3
                  obtain ⟨g3, cap3, rfl, hcap3⟩ := own_form hown3 (by omega)
                  have hR3 := (hgrow3.block R (by simp; omega) hRrow).trans (block_keep (w := W.drew) _ hR')
                  have hX3 := (Boxed.alloc (show Boxed W.drew w.heap.size 78 (.pointer (some ⟨R, 0, none⟩)) from hbx) _).kept hgrow3 hXrow
                  have cX3 := hX3.cell
                  have c23 : w3.cell? ⟨R, 2, none⟩ = some v' := by simp [World.cell?, hR3]
                  have f23 : w3.frozen? ⟨R, 2, none⟩ = false := by simp [World.frozen?, hR3]
                  try go_simp
                  refine hK _ _ ?_
                  clear hK K
                  refine wpAny_take (i := 8) (v := ?_) rfl (by kernel_rfl) (by kernel_rfl) (by kernel_rfl) (fun _ _ _ h => h) (Or.inl ⟨by rfl, ?_⟩) ?_
                  rotate_left
                  focus (intro w; go_simp; try with_reducible rfl)
                  refine wpAny_take (i := 9) (v := ?_) rfl (by kernel_rfl) (by kernel_rfl) (by kernel_rfl) (fun _ _ _ h => h) (Or.inl ⟨by rfl, ?_⟩) ?_
                  rotate_left
                  focus (intro w; go_simp; try with_reducible rfl)
                  refine wpAny_ready (rs := [10]) (by kernel_rfl) (by simp) (AllReady.cons rfl (fun K hK => ?_) AllReady.nil)
                  go_simp
                  refine hK _ _ ?_
                  clear hK K
                  refine wpAny_done (by kernel_rfl) ?_ _
                  exact hEnd _ _ _ hown3 hgrow3 hR3 hat3
            · go_simp
              refine hK _ _ ?_
              clear hK K
              refine wpAny_ready (rs := [0, 7]) (by kernel_rfl) (by simp) (AllReady.cons rfl (fun K hK => ?_) (AllReady.cons rfl (fun K hK => ?_) AllReady.nil))
              · go_simp
                refine hK _ _ ?_
                clear hK K
                refine wpAny_ready (rs := [7]) (by kernel_rfl) (by simp) (AllReady.cons rfl (fun K hK => ?_) AllReady.nil)
                · refine step_append_own rfl (.tmp 14) (.tmp 16) 54 rfl B 75 i84 (.agg #[.int .i64 0, .nilFunc]) 2 16 Tryd.underlying54 hi84 hz0 hz1 hz2 rfl (by decide) v' (n0 + pre.length) (xs ++ flatI (pre.map (·.2))) (by simp [Act.eval]) (hown'.drew.alloc _) ⟨W.heap.size, 0, none⟩ 1 1 [.int .i64 xm, .func xf xa xc] (by simp [Act.eval]) rfl (cell_two_at _ _ _ _ _ rfl) (fun x hx => by simp at hx; rcases hx with rfl | rfl <;> rfl) (by unfold maxLen; omega) (by omega) (by simp; omega) ?_
                  intro v2 w3 hown3 hgrow3 hat3
                  obtain ⟨g3, cap3, rfl, hcap3⟩ := own_form hown3 (by omega)
                  have hR3 := (hgrow3.block R (by simp; omega) hRrow).trans (block_keep (w := W.drew) _ hR')
                  have hX3 := (Boxed.alloc (show Boxed W.drew w.heap.size 78 (.pointer (some ⟨R, 0, none⟩)) from hbx) _).kept hgrow3 hXrow
                  have cX3 := hX3.cell
                  have c23 : w3.cell? ⟨R, 2, none⟩ = some v' := by simp [World.cell?, hR3]
                  have f23 : w3.frozen? ⟨R, 2, none⟩ = false := by simp [World.frozen?, hR3]
                  try go_simp
                  refine hK _ _ ?_
                  clear hK K
                  refine wpAny_take (i := 8) (v := ?_) rfl (by kernel_rfl) (by kernel_rfl) (by kernel_rfl) (fun _ _ _ h => h) (Or.inl ⟨by rfl, ?_⟩) ?_
                  rotate_left
                  focus (intro w; go_simp; try with_reducible rfl)
                  refine wpAny_take (i := 9) (v := ?_) rfl (by kernel_rfl) (by kernel_rfl) (by kernel_rfl) (fun _ _ _ h => h) (Or.inl ⟨by rfl, ?_⟩) ?_
                  rotate_left
                  focus (intro w; go_simp; try with_reducible rfl)
                  refine wpAny_ready (rs := [10]) (by kernel_rfl) (by simp) (AllReady.cons rfl (fun K hK => ?_) AllReady.nil)
                  go_simp
                  refine hK _ _ ?_
                  clear hK K
                  refine wpAny_done (by kernel_rfl) ?_ _
                  exact hEnd _ _ _ hown3 hgrow3 hR3 hat3
              · refine step_append_own rfl (.tmp 14) (.tmp 16) 54 rfl B 75 i84 (.agg #[.int .i64 0, .nilFunc]) 2 16 Tryd.underlying54 hi84 hz0 hz1 hz2 rfl (by decide) v' (n0 + pre.length) (xs ++ flatI (pre.map (·.2))) (by simp [Act.eval]) (hown'.drew.alloc _) ⟨W.heap.size, 0, none⟩ 1 1 [.int .i64 xm, .func xf xa xc] (by simp [Act.eval]) rfl (cell_two_at _ _ _ _ _ rfl) (fun x hx => by simp at hx; rcases hx with rfl | rfl <;> rfl) (by unfold maxLen; omega) (by omega) (by simp; omega) ?_
                intro v2 w3 hown3 hgrow3 hat3
                obtain ⟨g3, cap3, rfl, hcap3⟩ := own_form hown3 (by omega)
                have hR3 := (hgrow3.block R (by simp; omega) hRrow).trans (block_keep (w := W.drew) _ hR')
                have hX3 := (Boxed.alloc (show Boxed W.drew w.heap.size 78 (.pointer (some ⟨R, 0, none⟩)) from hbx) _).kept hgrow3 hXrow
                have cX3 := hX3.cell
                have c23 : w3.cell? ⟨R, 2, none⟩ = some v' := by simp [World.cell?, hR3]
                have f23 : w3.frozen? ⟨R, 2, none⟩ = false := by simp [World.frozen?, hR3]
                try go_simp
                refine hK _ _ ?_
                clear hK K
                refine wpAny_ready (rs := [0]) (by kernel_rfl) (by simp) (AllReady.cons rfl (fun K hK => ?_) AllReady.nil)
                · go_simp
                  refine hK _ _ ?_
                  clear hK K
                  refine wpAny_take (i := 8) (v := ?_) rfl (by kernel_rfl) (by kernel_rfl) (by kernel_rfl) (fun _ _ _ h => h) (Or.inl ⟨by rfl, ?_⟩) ?_
                  rotate_left
                  focus (intro w; go_simp; try with_reducible rfl)
                  refine wpAny_take (i := 9) (v := ?_) rfl (by kernel_rfl) (by kernel_rfl) (by kernel_rfl) (fun _ _ _ h => h) (Or.inl ⟨by rfl, ?_⟩) ?_
                  rotate_left
                  focus (intro w; go_simp; try with_reducible rfl)
                  refine wpAny_ready (rs := [10]) (by kernel_rfl) (by simp) (AllReady.cons rfl (fun K hK => ?_) AllReady.nil)
                  go_simp
                  refine hK _ _ ?_
                  clear hK K
                  refine wpAny_done (by kernel_rfl) ?_ _
                  exact hEnd _ _ _ hown3 hgrow3 hR3 hat3
      · go_simp
        refine hK _ _ ?_
        clear hK K
        refine wpAny_ready (rs := [0, 1, 6]) (by kernel_rfl) (by simp) (AllReady.cons rfl (fun K hK => ?_) (AllReady.cons rfl (fun K hK => ?_) (AllReady.cons rfl (fun K hK => ?_) AllReady.nil)))
        · go_simp
          refine hK _ _ ?_
          clear hK K
          refine wpAny_ready (rs := [1, 6]) (by kernel_rfl) (by simp) (AllReady.cons rfl (fun K hK => ?_) (AllReady.cons rfl (fun K hK => ?_) AllReady.nil))
          · go_simp
            refine hK _ _ ?_
            clear hK K
            refine wpAny_take (i := 2) (v := ?_) rfl (by kernel_rfl) (by kernel_rfl) (by kernel_rfl) (fun _ _ _ h => h) (Or.inl ⟨by rfl, ?_⟩) ?_
            rotate_left
            focus (intro w; go_simp; try with_reducible rfl)
            refine wpAny_take (i := 3) (v := ?_) rfl (by kernel_rfl) (by kernel_rfl) (by kernel_rfl) (fun _ _ _ h => h) (Or.inl ⟨by rfl, ?_⟩) ?_
            rotate_left
            focus (intro w; go_simp; try with_reducible rfl)
            refine wpAny_ready (rs := [4, 6]) (by kernel_rfl) (by simp) (AllReady.cons rfl (fun K hK => ?_) (AllReady.cons rfl (fun K hK => ?_) AllReady.nil))
            · go_simp
              refine hK _ _ ?_
              clear hK K
              refine wpAny_ready (rs := [6]) (by kernel_rfl) (by simp) (AllReady.cons rfl (fun K hK => ?_) AllReady.nil)
              · go_simp
                refine hK _ _ ?_
                clear hK K
                refine wpAny_ready (rs := [7]) (by kernel_rfl) (by simp) (AllReady.cons rfl (fun K hK => ?_) AllReady.nil)
                · refine step_append_own rfl (.tmp 14) (.tmp 16) 54 rfl B 75 i84 (.agg #[.int .i64 0, .nilFunc]) 2 16 Tryd.underlying54 hi84 hz0 hz1 hz2 rfl (by decide) v' (n0 + pre.length) (xs ++ flatI (pre.map (·.2))) (by simp [Act.eval]) (hown'.drew.alloc _) ⟨W.heap.size, 0, none⟩ 1 1 [.int .i64 xm, .func xf xa xc] (by simp [Act.eval]) rfl (cell_two_at _ _ _ _ _ rfl) (fun x hx => by simp at hx; rcases hx with rfl | rfl <;> rfl) (by unfold maxLen; omega) (by omega) (by simp; omega) ?_
                  intro v2 w3 hown3 hgrow3 hat3
                  obtain ⟨g3, cap3, rfl, hcap3⟩ := own_form hown3 (by omega)
                  have hR3 := (hgrow3.block R (by simp; omega) hRrow).trans (block_keep (w := W.drew) _ hR')
                  have hX3 := (Boxed.alloc (show Boxed W.drew w.heap.size 78 (.pointer (some ⟨R, 0, none⟩)) from hbx) _).kept hgrow3 hXrow
                  have cX3 := hX3.cell
                  have c23 : w3.cell? ⟨R, 2, none⟩ = some v' := by simp [World.cell?, hR3]
                  have f23 : w3.frozen? ⟨R, 2, none⟩ = false := by simp [World.frozen?, hR3]
                  try go_simp
                  refine hK _ _ ?_
                  clear hK K
                  refine wpAny_take (i := 8) (v := ?_) rfl (by kernel_rfl) (by kernel_rfl) (by kernel_rfl) (fun _ _ _ h => h) (Or.inl ⟨by rfl, ?_⟩) ?_
                  rotate_left
                  focus (intro w; go_simp; try with_reducible rfl)
                  refine wpAny_take (i := 9) (v := ?_) rfl (by kernel_rfl) (by kernel_rfl) (by kernel_rfl) (fun _ _ _ h => h) (Or.inl ⟨by rfl, ?_⟩) ?_
                  rotate_left
                  focus (intro w; go_simp; try with_reducible rfl)
                  refine wpAny_ready (rs := [10]) (by kernel_rfl) (by simp) (AllReady.cons rfl (fun K hK => ?_) AllReady.nil)
                  go_simp
                  refine hK _ _ ?_
                  clear hK K
                  refine wpAny_done (by kernel_rfl) ?_ _
                  exact hEnd _ _ _ hown3 hgrow3 hR3 hat3
            · go_simp
              refine hK _ _ ?_
              clear hK K
              refine wpAny_ready (rs := [4]) (by kernel_rfl) (by simp) (AllReady.cons rfl (fun K hK => ?_) AllReady.nil)
              · go_simp
                refine hK _ _ ?_
                clear hK K
                refine wpAny_ready (rs := [7]) (by kernel_rfl) (by simp) (AllReady.cons rfl (fun K hK => ?_) AllReady.nil)
                · refine step_append_own rfl (.tmp 14) (.tmp 16) 54 rfl B 75 i84 (.agg #[.int .i64 0, .nilFunc]) 2 16 Tryd.underlying54 hi84 hz0 hz1 hz2 rfl (by decide) v' (n0 + pre.length) (xs ++ flatI (pre.map (·.2))) (by simp [Act.eval]) (hown'.drew.alloc _) ⟨W.heap.size, 0, none⟩ 1 1 [.int .i64 xm, .func xf xa xc] (by simp [Act.eval]) rfl (cell_two_at _ _ _ _ _ rfl) (fun x hx => by simp at hx; rcases hx with rfl | rfl <;> rfl) (by unfold maxLen; omega) (by omega) (by simp; omega) ?_
                  intro v2 w3 hown3 hgrow3 hat3
                  obtain ⟨g3, cap3, rfl, hcap3⟩ := own_form hown3 (by omega)
                  have hR3 := (hgrow3.block R (by simp; omega) hRrow).trans (block_keep (w := W.drew) _ hR')
                  have hX3 := (Boxed.alloc (show Boxed W.drew w.heap.size 78 (.pointer (some ⟨R, 0, none⟩)) from hbx) _).kept hgrow3 hXrow
                  have cX3 := hX3.cell
                  have c23 : w3.cell? ⟨R, 2, none⟩ = some v' := by simp [World.cell?, hR3]
                  have f23 : w3.frozen? ⟨R, 2, none⟩ = false := by simp [World.frozen?, hR3]
                  try go_simp
                  refine hK _ _ ?_
                  clear hK K
                  refine wpAny_take (i := 8) (v := ?_) rfl (by kernel_rfl) (by kernel_rfl) (by kernel_rfl) (fun _ _ _ h => h) (Or.inl ⟨by rfl, ?_⟩) ?_
                  rotate_left
                  focus (intro w; go_simp; try with_reducible rfl)
                  refine wpAny_take (i := 9) (v := ?_) rfl (by kernel_rfl) (by kernel_rfl) (by kernel_rfl) (fun _ _ _ h => h) (Or.inl ⟨by rfl, ?_⟩) ?_
                  rotate_left
                  focus (intro w; go_simp; try with_reducible rfl)
                  refine wpAny_ready (rs := [10]) (by kernel_rfl) (by simp) (AllReady.cons rfl (fun K hK => ?_) AllReady.nil)
                  go_simp
                  refine hK _ _ ?_
                  clear hK K
                  refine wpAny_done (by kernel_rfl) ?_ _
                  exact hEnd _ _ _ hown3 hgrow3 hR3 hat3
          · go_simp
            refine hK _ _ ?_
            clear hK K
            refine wpAny_ready (rs := [1]) (by kernel_rfl) (by simp) (AllReady.cons rfl (fun K hK => ?_) AllReady.nil)
            · go_simp
              refine hK _ _ ?_
              clear hK K
              refine wpAny_take (i := 2) (v := ?_) rfl (by kernel_rfl) (by kernel_rfl) (by kernel_rfl) (fun _ _ _ h => h) (Or.inl ⟨by rfl, ?_⟩) ?_
              rotate_left
              focus (intro w; go_simp; try with_reducible rfl)
              refine wpAny_take (i := 3) (v := ?_) rfl (by kernel_rfl) (by kernel_rfl) (by kernel_rfl) (fun _ _ _ h => h) (Or.inl ⟨by rfl, ?_⟩) ?_
              rotate_left
              focus (intro w; go_simp; try with_reducible rfl)
              refine wpAny_ready (rs := [4]) (by kernel_rfl) (by simp) (AllReady.cons rfl (fun K hK => ?_) AllReady.nil)
              · go_simp
                refine hK _ _ ?_
                clear hK K
                refine wpAny_ready (rs := [7]) (by kernel_rfl) (by simp) (AllReady.cons rfl (fun K hK => ?_) AllReady.nil)
                · refine step_append_own rfl (.tmp 14) (.tmp 16) 54 rfl B 75 i84 (.agg #[.int .i64 0, .nilFunc]) 2 16 Tryd.underlying54 hi84 hz0 hz1 hz2 rfl (by decide) v' (n0 + pre.length) (xs ++ flatI (pre.map (·.2))) (by simp [Act.eval]) (hown'.drew.alloc _) ⟨W.heap.size, 0, none⟩ 1 1 [.int .i64 xm, .func xf xa xc] (by simp [Act.eval]) rfl (cell_two_at _ _ _ _ _ rfl) (fun x hx => by simp at hx; rcases hx with rfl | rfl <;> rfl) (by unfold maxLen; omega) (by omega) (by simp; omega) ?_
                  intro v2 w3 hown3 hgrow3 hat3
                  obtain ⟨g3, cap3, rfl, hcap3⟩ := own_form hown3 (by omega)
                  have hR3 := (hgrow3.block R (by simp; omega) hRrow).trans (block_keep (w := W.drew) _ hR')
                  have hX3 := (Boxed.alloc (show Boxed W.drew w.heap.size 78 (.pointer (some ⟨R, 0, none⟩)) from hbx) _).kept hgrow3 hXrow
                  have cX3 := hX3.cell
                  have c23 : w3.cell? ⟨R, 2, none⟩ = some v' := by simp [World.cell?, hR3]
                  have f23 : w3.frozen? ⟨R, 2, none⟩ = false := by simp [World.frozen?, hR3]
                  try go_simp
                  refine hK _ _ ?_
                  clear hK K
                  refine wpAny_take (i := 8) (v := ?_) rfl (by kernel_rfl) (by kernel_rfl) (by kernel_rfl) (fun _ _ _ h => h) (Or.inl ⟨by rfl, ?_⟩) ?_
                  rotate_left
                  focus (intro w; go_simp; try with_reducible rfl)
                  refine wpAny_take (i := 9) (v := ?_) rfl (by kernel_rfl) (by kernel_rfl) (by kernel_rfl) (fun _ _ _ h => h) (Or.inl ⟨by rfl, ?_⟩) ?_
                  rotate_left
                  focus (intro w; go_simp; try with_reducible rfl)
                  refine wpAny_ready (rs := [10]) (by kernel_rfl) (by simp) (AllReady.cons rfl (fun K hK => ?_) AllReady.nil)
                  go_simp
                  refine hK _ _ ?_
                  clear hK K
                  refine wpAny_done (by kernel_rfl) ?_ _
                  exact hEnd _ _ _ hown3 hgrow3 hR3 hat3
        · go_simp
          refine hK _ _ ?_
          clear hK K
          refine wpAny_take (i := 2) (v := ?_) rfl (by kernel_rfl) (by kernel_rfl) (by kernel_rfl) (fun _ _ _ h => h) (Or.inl ⟨by rfl, ?_⟩) ?_
          rotate_left
          focus (intro w; go_simp; try with_reducible rfl)
          refine wpAny_take (i := 3) (v := ?_) rfl (by kernel_rfl) (by kernel_rfl) (by kernel_rfl) (fun _ _ _ h => h) (Or.inl ⟨by rfl, ?_⟩) ?_
          rotate_left
          focus (intro w; go_simp; try with_reducible rfl)
          refine wpAny_ready (rs := [0, 4, 6]) (by kernel_rfl) (by simp) (AllReady.cons rfl (fun K hK => ?_) (AllReady.cons rfl (fun K hK => ?_) (AllReady.cons rfl (fun K hK => ?_) AllReady.nil)))
          · go_simp
            refine hK _ _ ?_
            clear hK K
            refine wpAny_ready (rs := [4, 6]) (by kernel_rfl) (by simp) (AllReady.cons rfl (fun K hK => ?_) (AllReady.cons rfl (fun K hK => ?_) AllReady.nil))
            · go_simp
              refine hK _ _ ?_
              clear hK K
              refine wpAny_ready (rs := [6]) (by kernel_rfl) (by simp) (AllReady.cons rfl (fun K hK => ?_) AllReady.nil)
              · go_simp
                refine hK _ _ ?_
                clear hK K
                refine wpAny_ready (rs := [7]) (by kernel_rfl) (by simp) (AllReady.cons rfl (fun K hK => ?_) AllReady.nil)
                · refine step_append_own rfl (.tmp 14) (.tmp 16) 54 rfl B 75 i84 (.agg #[.int .i64 0, .nilFunc]) 2 16 Tryd.underlying54 hi84 hz0 hz1 hz2 rfl (by decide) v' (n0 + pre.length) (xs ++ flatI (pre.map (·.2))) (by simp [Act.eval]) (hown'.drew.alloc _) ⟨W.heap.size, 0, none⟩ 1 1 [.int .i64 xm, .func xf xa xc] (by simp [Act.eval]) rfl (cell_two_at _ _ _ _ _ rfl) (fun x hx => by simp at hx; rcases hx with rfl | rfl <;> rfl) (by unfold maxLen; omega) (by omega) (by simp; omega) ?_
                  intro v2 w3 hown3 hgrow3 hat3
                  obtain ⟨g3, cap3, rfl, hcap3⟩ := own_form hown3 (by omega)
                  have hR3 := (hgrow3.block R (by simp; omega) hRrow).trans (block_keep (w := W.drew) _ hR')
                  have hX3 := (Boxed.alloc (show Boxed W.drew w.heap.size 78 (.pointer (some ⟨R, 0, none⟩)) from hbx) _).kept hgrow3 hXrow
                  have cX3 := hX3.cell
                  have c23 : w3.cell? ⟨R, 2, none⟩ = some v' := by simp [World.cell?, hR3]
                  have f23 : w3.frozen? ⟨R, 2, none⟩ = false := by simp [World.frozen?, hR3]
                  try go_simp
                  refine hK _ _ ?_
                  clear hK K
                  refine wpAny_take (i := 8) (v := ?_) rfl (by kernel_rfl) (by kernel_rfl) (by kernel_rfl) (fun _ _ _ h => h) (Or.inl ⟨by rfl, ?_⟩) ?_
                  rotate_left
                  focus (intro w; go_simp; try with_reducible rfl)
                  refine wpAny_take (i := 9) (v := ?_) rfl (by kernel_rfl) (by kernel_rfl) (by kernel_rfl) (fun _ _ _ h => h) (Or.inl ⟨by rfl, ?_⟩) ?_
                  rotate_left
                  focus (intro w; go_simp; try with_reducible rfl)
                  refine wpAny_ready (rs := [10]) (by kernel_rfl) (by simp) (AllReady.cons rfl (fun K hK => ?_) AllReady.nil)
                  go_simp
                  refine hK _ _ ?_
                  clear hK K
                  refine wpAny_done (by kernel_rfl) ?_ _
                  exact hEnd _ _ _ hown3 hgrow3 hR3 hat3
            · go_simp
              refine hK _ _ ?_
              clear hK K
              refine wpAny_ready (rs := [4]) (by kernel_rfl) (by simp) (AllReady.cons rfl (fun K hK => ?_) AllReady.nil)
              · go_simp
                refine hK _ _ ?_
                clear hK K
                refine wpAny_ready (rs := [7]) (by kernel_rfl) (by simp) (AllReady.cons rfl (fun K hK => ?_) AllReady.nil)
                · refine step_append_own rfl (.tmp 14) (.tmp 16) 54 rfl B 75 i84 (.agg #[.int .i64 0, .nilFunc]) 2 16 Tryd.underlying54 hi84 hz0 hz1 hz2 rfl (by decide) v' (n0 + pre.length) (xs ++ flatI (pre.map (·.2))) (by simp [Act.eval]) (hown'.drew.alloc _) ⟨W.heap.size, 0, none⟩ 1 1 [.int .i64 xm, .func xf xa xc] (by simp [Act.eval]) rfl (cell_two_at _ _ _ _ _ rfl) (fun x hx => by simp at hx; rcases hx with rfl | rfl <;> rfl) (by unfold maxLen; omega) (by omega) (by simp; omega) ?_
                  intro v2 w3 hown3 hgrow3 hat3
                  obtain ⟨g3, cap3, rfl, hcap3⟩ := own_form hown3 (by omega)
                  have hR3 := (hgrow3.block R (by simp; omega) hRrow).trans (block_keep (w := W.drew) _ hR')
                  have hX3 := (Boxed.alloc (show Boxed W.drew w.heap.size 78 (.pointer (some ⟨R, 0, none⟩)) from hbx) _).kept hgrow3 hXrow
                  have cX3 := hX3.cell
                  have c23 : w3.cell? ⟨R, 2, none⟩ = some v' := by simp [World.cell?, hR3]
                  have f23 : w3.frozen? ⟨R, 2, none⟩ = false := by simp [World.frozen?, hR3]
                  try go_simp
                  refine hK _ _ ?_
                  clear hK K
                  refine wpAny_take (i := 8) (v := ?_) rfl (by kernel_rfl) (by kernel_rfl) (by kernel_rfl) (fun _ _ _ h => h) (Or.inl ⟨by rfl, ?_⟩) ?_
                  rotate_left
                  focus (intro w; go_simp; try with_reducible rfl)
                  refine wpAny_take (i := 9) (v := ?_) rfl (by kernel_rfl) (by kernel_rfl) (by kernel_rfl) (fun _ _ _ h => h) (Or.inl ⟨by rfl, ?_⟩) ?_
                  rotate_left
                  focus (intro w; go_simp; try with_reducible rfl)
                  refine wpAny_ready (rs := [10]) (by kernel_rfl) (by simp) (AllReady.cons rfl (fun K hK => ?_) AllReady.nil)
                  go_simp
                  refine hK _ _ ?_
                  clear hK K
                  refine wpAny_done (by kernel_rfl) ?_ _
                  exact hEnd _ _ _ hown3 hgrow3 hR3 hat3
          · go_simp
            refine hK _ _ ?_
            clear hK K
            refine wpAny_ready (rs := [0, 6]) (by kernel_rfl) (by simp) (AllReady.cons rfl (fun K hK => ?_) (AllReady.cons rfl (fun K hK => ?_) AllReady.nil))
            · go_simp
              refine hK _ _ ?_
              clear hK K
              refine wpAny_ready (rs := [6]) (by kernel_rfl) (by simp) (AllReady.cons rfl (fun K hK => ?_) AllReady.nil)
              · go_simp
                refine hK _ _ ?_
                clear hK K
                refine wpAny_ready (rs := [7]) (by kernel_rfl) (by simp) (AllReady.cons rfl (fun K hK => ?_) AllReady.nil)
                · refine step_append_own rfl (.tmp 14) (.tmp 16) 54 rfl B 75 i84 (.agg #[.int .i64 0, .nilFunc]) 2 16 Tryd.underlying54 hi84 hz0 hz1 hz2 rfl (by decide) v' (n0 + pre.length) (xs ++ flatI (pre.map (·.2))) (by simp [Act.eval]) (hown'.drew.alloc _) ⟨W.heap.size, 0, none⟩ 1 1 [.int .i64 xm, .func xf xa xc] (by simp [Act.eval]) rfl (cell_two_at _ _ _ _ _ rfl) (fun x hx => by simp at hx; rcases hx with rfl | rfl <;> rfl) (by unfold maxLen; omega) (by omega) (by simp; omega) ?_
                  intro v2 w3 hown3 hgrow3 hat3
                  obtain ⟨g3, cap3, rfl, hcap3⟩ := own_form hown3 (by omega)
                  have hR3 := (hgrow3.block R (by simp; omega) hRrow).trans (block_keep (w := W.drew) _ hR')
                  have hX3 := (Boxed.alloc (show Boxed W.drew w.heap.size 78 (.pointer (some ⟨R, 0, none⟩)) from hbx) _).kept hgrow3 hXrow
                  have cX3 := hX3.cell
                  have c23 : w3.cell? ⟨R, 2, none⟩ = some v' := by simp [World.cell?, hR3]
                  have f23 : w3.frozen? ⟨R, 2, none⟩ = false := by simp [World.frozen?, hR3]
                  try go_simp
                  refine hK _ _ ?_
                  clear hK K
                  refine wpAny_take (i := 8) (v := ?_) rfl (by kernel_rfl) (by kernel_rfl) (by kernel_rfl) (fun _ _ _ h => h) (Or.inl ⟨by rfl, ?_⟩) ?_
                  rotate_left
                  focus (intro w; go_simp; try with_reducible rfl)
                  refine wpAny_take (i := 9) (v := ?_) rfl (by kernel_rfl) (by kernel_rfl) (by kernel_rfl) (fun _ _ _ h => h) (Or.inl ⟨by rfl, ?_⟩) ?_
                  rotate_left
                  focus (intro w; go_simp; try with_reducible rfl)
                  refine wpAny_ready (rs := [10]) (by kernel_rfl) (by simp) (AllReady.cons rfl (fun K hK => ?_) AllReady.nil)
                  go_simp
                  refine hK _ _ ?_
                  clear hK K
                  refine wpAny_done (by kernel_rfl) ?_ _
                  exact hEnd _ _ _ hown3 hgrow3 hR3 hat3
            · go_simp
              refine hK _ _ ?_
              clear hK K
              refine wpAny_ready (rs := [0, 7]) (by kernel_rfl) (by simp) (AllReady.cons rfl (fun K hK => ?_) (AllReady.cons rfl (fun K hK => ?_) AllReady.nil))
              · go_simp
                refine hK _ _ ?_
                clear hK K
                refine wpAny_ready (rs := [7]) (by kernel_rfl) (by simp) (AllReady.cons rfl (fun K hK => ?_) AllReady.nil)
                · refine step_append_own rfl (.tmp 14) (.tmp 16) 54 rfl B 75 i84 (.agg #[.int .i64 0, .nilFunc]) 2 16 Tryd.underlying54 hi84 hz0 hz1 hz2 rfl (by decide) v' (n0 + pre.length) (xs ++ flatI (pre.map (·.2))) (by simp [Act.eval]) (hown'.drew.alloc _) ⟨W.heap.size, 0, none⟩ 1 1 [.int .i64 xm, .func xf xa xc] (by simp [Act.eval]) rfl (cell_two_at _ _ _ _ _ rfl) (fun x hx => by simp at hx; rcases hx with rfl | rfl <;> rfl) (by unfold maxLen; omega) (by omega) (by simp; omega) ?_
                  intro v2 w3 hown3 hgrow3 hat3
                  obtain ⟨g3, cap3, rfl, hcap3⟩ := own_form hown3 (by omega)
                  have hR3 := (hgrow3.block R (by simp; omega) hRrow).trans (block_keep (w := W.drew) _ hR')
                  have hX3 := (Boxed.alloc (show Boxed W.drew w.heap.size 78 (.pointer (some ⟨R, 0, none⟩)) from hbx) _).kept hgrow3 hXrow
                  have cX3 := hX3.cell
                  have c23 : w3.cell? ⟨R, 2, none⟩ = some v' := by simp [World.cell?, hR3]
                  have f23 : w3.frozen? ⟨R, 2, none⟩ = false := by simp [World.frozen?, hR3]
                  try go_simp
                  refine hK _ _ ?_
                  clear hK K
                  refine wpAny_take (i := 8) (v := ?_) rfl (by kernel_rfl) (by kernel_rfl) (by kernel_rfl) (fun _ _ _ h => h) (Or.inl ⟨by rfl, ?_⟩) ?_
                  rotate_left
                  focus (intro w; go_simp; try with_reducible rfl)
                  refine wpAny_take (i := 9) (v := ?_) rfl (by kernel_rfl) (by kernel_rfl) (by kernel_rfl) (fun _ _ _ h => h) (Or.inl ⟨by rfl, ?_⟩) ?_
                  rotate_left
                  focus (intro w; go_simp; try with_reducible rfl)
                  refine wpAny_ready (rs := [10]) (by kernel_rfl) (by simp) (AllReady.cons rfl (fun K hK => ?_) AllReady.nil)
                  go_simp
                  refine hK _ _ ?_
                  clear hK K
                  refine wpAny_done (by kernel_rfl) ?_ _
                  exact hEnd _ _ _ hown3 hgrow3 hR3 hat3
              · refine step_append_own rfl (.tmp 14) (.tmp 16) 54 rfl B 75 i84 (.agg #[.int .i64 0, .nilFunc]) 2 16 Tryd.underlying54 hi84 hz0 hz1 hz2 rfl (by decide) v' (n0 + pre.length) (xs ++ flatI (pre.map (·.2))) (by simp [Act.eval]) (hown'.drew.alloc _) ⟨W.heap.size, 0, none⟩ 1 1 [.int .i64 xm, .func xf xa xc] (by simp [Act.eval]) rfl (cell_two_at _ _ _ _ _ rfl) (fun x hx => by simp at hx; rcases hx with rfl | rfl <;> rfl) (by unfold maxLen; omega) (by omega) (by simp; omega) ?_
                intro v2 w3 hown3 hgrow3 hat3
                obtain ⟨g3, cap3, rfl, hcap3⟩ := own_form hown3 (by omega)
                have hR3 := (hgrow3.block R (by simp; omega) hRrow).trans (block_keep (w := W.drew) _ hR')
                have hX3 := (Boxed.alloc (show Boxed W.drew w.heap.size 78 (.pointer (some ⟨R, 0, none⟩)) from hbx) _).kept hgrow3 hXrow
                have cX3 := hX3.cell
                have c23 : w3.cell? ⟨R, 2, none⟩ = some v' := by simp [World.cell?, hR3]
                have f23 : w3.frozen? ⟨R, 2, none⟩ = false := by simp [World.frozen?, hR3]
                try go_simp
                refine hK _ _ ?_
                clear hK K
                refine wpAny_ready (rs := [0]) (by kernel_rfl) (by simp) (AllReady.cons rfl (fun K hK => ?_) AllReady.nil)
                · go_simp
                  refine hK _ _ ?_
                  clear hK K
                  refine wpAny_take (i := 8) (v := ?_) rfl (by kernel_rfl) (by kernel_rfl) (by kernel_rfl) (fun _ _ _ h => h) (Or.inl ⟨by rfl, ?_⟩) ?_
                  rotate_left
                  focus (intro w; go_simp; try with_reducible rfl)
                  refine wpAny_take (i := 9) (v := ?_) rfl (by kernel_rfl) (by kernel_rfl) (by kernel_rfl) (fun _ _ _ h => h) (Or.inl ⟨by rfl, ?_⟩) ?_
                  rotate_left
                  focus (intro w; go_simp; try with_reducible rfl)
                  refine wpAny_ready (rs := [10]) (by kernel_rfl) (by simp) (AllReady.cons rfl (fun K hK => ?_) AllReady.nil)
                  go_simp
                  refine hK _ _ ?_
                  clear hK K
                  refine wpAny_done (by kernel_rfl) ?_ _
                  exact hEnd _ _ _ hown3 hgrow3 hR3 hat3
          · go_simp
            refine hK _ _ ?_
            clear hK K
            refine wpAny_ready (rs := [0, 4]) (by kernel_rfl) (by simp) (AllReady.cons rfl (fun K hK => ?_) (AllReady.cons rfl (fun K hK => ?_) AllReady.nil))
            · go_simp
              refine hK _ _ ?_
              clear hK K
              refine wpAny_ready (rs := [4]) (by kernel_rfl) (by simp) (AllReady.cons rfl (fun K hK => ?_) AllReady.nil)
              · go_simp
                refine hK _ _ ?_
                clear hK K
                refine wpAny_ready (rs := [7]) (by kernel_rfl) (by simp) (AllReady.cons rfl (fun K hK => ?_) AllReady.nil)
                · refine step_append_own rfl (.tmp 14) (.tmp 16) 54 rfl B 75 i84 (.agg #[.int .i64 0, .nilFunc]) 2 16 Tryd.underlying54 hi84 hz0 hz1 hz2 rfl (by decide) v' (n0 + pre.length) (xs ++ flatI (pre.map (·.2))) (by simp [Act.eval]) (hown'.drew.alloc _) ⟨W.heap.size, 0, none⟩ 1 1 [.int .i64 xm, .func xf xa xc] (by simp [Act.eval]) rfl (cell_two_at _ _ _ _ _ rfl) (fun x hx => by simp at hx; rcases hx with rfl | rfl <;> rfl) (by unfold maxLen; omega) (by omega) (by simp; omega) ?_
                  intro v2 w3 hown3 hgrow3 hat3
                  obtain ⟨g3, cap3, rfl, hcap3⟩ := own_form hown3 (by omega)
                  have hR3 := (hgrow3.block R (by simp; omega) hRrow).trans (block_keep (w := W.drew) _ hR')
                  have hX3 := (Boxed.alloc (show Boxed W.drew w.heap.size 78 (.pointer (some ⟨R, 0, none⟩)) from hbx) _).kept hgrow3 hXrow
                  have cX3 := hX3.cell
                  have c23 : w3.cell? ⟨R, 2, none⟩ = some v' := by simp [World.cell?, hR3]
                  have f23 : w3.frozen? ⟨R, 2, none⟩ = false := by simp [World.frozen?, hR3]
                  try go_simp
                  refine hK _ _ ?_
                  clear hK K
                  refine wpAny_take (i := 8) (v := ?_) rfl (by kernel_rfl) (by kernel_rfl) (by kernel_rfl) (fun _ _ _ h => h) (Or.inl ⟨by rfl, ?_⟩) ?_
                  rotate_left
                  focus (intro w; go_simp; try with_reducible rfl)
                  refine wpAny_take (i := 9) (v := ?_) rfl (by kernel_rfl) (by kernel_rfl) (by kernel_rfl) (fun _ _ _ h => h) (Or.inl ⟨by rfl, ?_⟩) ?_
                  rotate_left
                  focus (intro w; go_simp; try with_reducible rfl)
                  refine wpAny_ready (rs := [10]) (by kernel_rfl) (by simp) (AllReady.cons rfl (fun K hK => ?_) AllReady.nil)
                  go_simp
                  refine hK _ _ ?_
                  clear hK K
                  refine wpAny_done (by kernel_rfl) ?_ _
                  exact hEnd _ _ _ hown3 hgrow3 hR3 hat3
            · go_simp
              refine hK _ _ ?_
              clear hK K
              refine wpAny_ready (rs := [0, 7]) (by kernel_rfl) (by simp) (AllReady.cons rfl (fun K hK => ?_) (AllReady.cons rfl (fun K hK => ?_) AllReady.nil))
              · go_simp
                refine hK _ _ ?_
                clear hK K
                refine wpAny_ready (rs := [7]) (by kernel_rfl) (by simp) (AllReady.cons rfl (fun K hK => ?_) AllReady.nil)
                · refine step_append_own rfl (.tmp 14) (.tmp 16) 54 rfl B 75 i84 (.agg #[.int .i64 0, .nilFunc]) 2 16 Tryd.underlying54 hi84 hz0 hz1 hz2 rfl (by decide) v' (n0 + pre.length) (xs ++ flatI (pre.map (·.2))) (by simp [Act.eval]) (hown'.drew.alloc _) ⟨W.heap.size, 0, none⟩ 1 1 [.int .i64 xm, .func xf xa xc] (by simp [Act.eval]) rfl (cell_two_at _ _ _ _ _ rfl) (fun x hx => by simp at hx; rcases hx with rfl | rfl <;> rfl) (by unfold maxLen; omega) (by omega) (by simp; omega) ?_
                  intro v2 w3 hown3 hgrow3 hat3
                  obtain ⟨g3, cap3, rfl, hcap3⟩ := own_form hown3 (by omega)
                  have hR3 := (hgrow3.block R (by simp; omega) hRrow).trans (block_keep (w := W.drew) _ hR')
                  have hX3 := (Boxed.alloc (show Boxed W.drew w.heap.size 78 (.pointer (some ⟨R, 0, none⟩)) from hbx) _).kept hgrow3 hXrow
                  have cX3 := hX3.cell
                  have c23 : w3.cell? ⟨R, 2, none⟩ = some v' := by simp [World.cell?, hR3]
                  have f23 : w3.frozen? ⟨R, 2, none⟩ = false := by simp [World.frozen?, hR3]
                  try go_simp
                  refine hK _ _ ?_
                  clear hK K
                  refine wpAny_take (i := 8) (v := ?_) rfl (by kernel_rfl) (by kernel_rfl) (by kernel_rfl) (fun _ _ _ h => h) (Or.inl ⟨by rfl, ?_⟩) ?_
                  rotate_left
                  focus (intro w; go_simp; try with_reducible rfl)
                  refine wpAny_take (i := 9) (v := ?_) rfl (by kernel_rfl) (by kernel_rfl) (by kernel_rfl) (fun _ _ _ h => h) (Or.inl ⟨by rfl, ?_⟩) ?_
                  rotate_left
                  focus (intro w; go_simp; try with_reducible rfl)
                  refine wpAny_ready (rs := [10]) (by kernel_rfl) (by simp) (AllReady.cons rfl (fun K hK => ?_) AllReady.nil)
                  go_simp
                  refine hK _ _ ?_
                  clear hK K
                  refine wpAny_done (by kernel_rfl) ?_ _
                  exact hEnd _ _ _ hown3 hgrow3 hR3 hat3
              · refine step_append_own rfl (.tmp 14) (.tmp 16) 54 rfl B 75 i84 (.agg #[.int .i64 0, .nilFunc]) 2 16 Tryd.underlying54 hi84 hz0 hz1 hz2 rfl (by decide) v' (n0 + pre.length) (xs ++ flatI (pre.map (·.2))) (by simp [Act.eval]) (hown'.drew.alloc _) ⟨W.heap.size, 0, none⟩ 1 1 [.int .i64 xm, .func xf xa xc] (by simp [Act.eval]) rfl (cell_two_at _ _ _ _ _ rfl) (fun x hx => by simp at hx; rcases hx with rfl | rfl <;> rfl) (by unfold maxLen; omega) (by omega) (by simp; omega) ?_
                intro v2 w3 hown3 hgrow3 hat3
                obtain ⟨g3, cap3, rfl, hcap3⟩ := own_form hown3 (by omega)
                have hR3 := (hgrow3.block R (by simp; omega) hRrow).trans (block_keep (w := W.drew) _ hR')
                have hX3 := (Boxed.alloc (show Boxed W.drew w.heap.size 78 (.pointer (some ⟨R, 0, none⟩)) from hbx) _).kept hgrow3 hXrow
                have cX3 := hX3.cell
                have c23 : w3.cell? ⟨R, 2, none⟩ = some v' := by simp [World.cell?, hR3]
                have f23 : w3.frozen? ⟨R, 2, none⟩ = false := by simp [World.frozen?, hR3]
                try go_simp
                refine hK _ _ ?_
                clear hK K
                refine wpAny_ready (rs := [0]) (by kernel_rfl) (by simp) (AllReady.cons rfl (fun K hK => ?_) AllReady.nil)
                · go_simp
                  refine hK _ _ ?_
                  clear hK K
                  refine wpAny_take (i := 8) (v := ?_) rfl (by kernel_rfl) (by kernel_rfl) (by kernel_rfl) (fun _ _ _ h => h) (Or.inl ⟨by rfl, ?_⟩) ?_
                  rotate_left
                  focus (intro w; go_simp; try with_reducible rfl)
                  refine wpAny_take (i := 9) (v := ?_) rfl (by kernel_rfl) (by kernel_rfl) (by kernel_rfl) (fun _ _ _ h => h) (Or.inl ⟨by rfl, ?_⟩) ?_
                  rotate_left
                  focus (intro w; go_simp; try with_reducible rfl)
                  refine wpAny_ready (rs := [10]) (by kernel_rfl) (by simp) (AllReady.cons rfl (fun K hK => ?_) AllReady.nil)
                  go_simp
                  refine hK _ _ ?_
                  clear hK K
                  refine wpAny_done (by kernel_rfl) ?_ _
                  exact hEnd _ _ _ hown3 hgrow3 hR3 hat3
        · go_simp
          refine hK _ _ ?_
          clear hK K
          refine wpAny_ready (rs := [0, 1]) (by kernel_rfl) (by simp) (AllReady.cons rfl (fun K hK => ?_) (AllReady.cons rfl (fun K hK => ?_) AllReady.nil))
          · go_simp
            refine hK _ _ ?_
            clear hK K
            refine wpAny_ready (rs := [1]) (by kernel_rfl) (by simp) (AllReady.cons rfl (fun K hK => ?_) AllReady.nil)
            · go_simp
              refine hK _ _ ?_
              clear hK K
              refine wpAny_take (i := 2) (v := ?_) rfl (by kernel_rfl) (by kernel_rfl) (by kernel_rfl) (fun _ _ _ h => h) (Or.inl ⟨by rfl, ?_⟩) ?_
              rotate_left
              focus (intro w; go_simp; try with_reducible rfl)
              refine wpAny_take (i := 3) (v := ?_) rfl (by kernel_rfl) (by kernel_rfl) (by kernel_rfl) (fun _ _ _ h => h) (Or.inl ⟨by rfl, ?_⟩) ?_
              rotate_left
              focus (intro w; go_simp; try with_reducible rfl)
              refine wpAny_ready (rs := [4]) (by kernel_rfl) (by simp) (AllReady.cons rfl (fun K hK => ?_) AllReady.nil)
              · go_simp
                refine hK _ _ ?_
                clear hK K
                refine wpAny_ready (rs := [7]) (by kernel_rfl) (by simp) (AllReady.cons rfl (fun K hK => ?_) AllReady.nil)
                · refine step_append_own rfl (.tmp 14) (.tmp 16) 54 rfl B 75 i84 (.agg #[.int .i64 0, .nilFunc]) 2 16 Tryd.underlying54 hi84 hz0 hz1 hz2 rfl (by decide) v' (n0 + pre.length) (xs ++ flatI (pre.map (·.2))) (by simp [Act.eval]) (hown'.drew.alloc _) ⟨W.heap.size, 0, none⟩ 1 1 [.int .i64 xm, .func xf xa xc] (by simp [Act.eval]) rfl (cell_two_at _ _ _ _ _ rfl) (fun x hx => by simp at hx; rcases hx with rfl | rfl <;> rfl) (by unfold maxLen; omega) (by omega) (by simp; omega) ?_
                  intro v2 w3 hown3 hgrow3 hat3
                  obtain ⟨g3, cap3, rfl, hcap3⟩ := own_form hown3 (by omega)
                  have hR3 := (hgrow3.block R (by simp; omega) hRrow).trans (block_keep (w := W.drew) _ hR')
                  have hX3 := (Boxed.alloc (show Boxed W.drew w.heap.size 78 (.pointer (some ⟨R, 0, none⟩)) from hbx) _).kept hgrow3 hXrow
                  have cX3 := hX3.cell
                  have c23 : w3.cell? ⟨R, 2, none⟩ = some v' := by simp [World.cell?, hR3]
                  have f23 : w3.frozen? ⟨R, 2, none⟩ = false := by simp [World.frozen?, hR3]
                  try go_simp
                  refine hK _ _ ?_
                  clear hK K
                  refine wpAny_take (i := 8) (v := ?_) rfl (by kernel_rfl) (by kernel_rfl) (by kernel_rfl) (fun _ _ _ h => h) (Or.inl ⟨by rfl, ?_⟩) ?_
                  rotate_left
                  focus (intro w; go_simp; try with_reducible rfl)
                  refine wpAny_take (i := 9) (v := ?_) rfl (by kernel_rfl) (by kernel_rfl) (by kernel_rfl) (fun _ _ _ h => h) (Or.inl ⟨by rfl, ?_⟩) ?_
                  rotate_left
                  focus (intro w; go_simp; try with_reducible rfl)
                  refine wpAny_ready (rs := [10]) (by kernel_rfl) (by simp) (AllReady.cons rfl (fun K hK => ?_) AllReady.nil)
                  go_simp
                  refine hK _ _ ?_
                  clear hK K
                  refine wpAny_done (by kernel_rfl) ?_ _
                  exact hEnd _ _ _ hown3 hgrow3 hR3 hat3
          · go_simp
            refine hK _ _ ?_
            clear hK K
            refine wpAny_take (i := 2) (v := ?_) rfl (by kernel_rfl) (by kernel_rfl) (by kernel_rfl) (fun _ _ _ h => h) (Or.inl ⟨by rfl, ?_⟩) ?_
            rotate_left
            focus (intro w; go_simp; try with_reducible rfl)
            refine wpAny_take (i := 3) (v := ?_) rfl (by kernel_rfl) (by kernel_rfl) (by kernel_rfl) (fun _ _ _ h => h) (Or.inl ⟨by rfl, ?_⟩) ?_
            rotate_left
            focus (intro w; go_simp; try with_reducible rfl)
            refine wpAny_ready (rs := [0, 4]) (by kernel_rfl) (by simp) (AllReady.cons rfl (fun K hK => ?_) (AllReady.cons rfl (fun K hK => ?_) AllReady.nil))
            · go_simp
              refine hK _ _ ?_
              clear hK K
              refine wpAny_ready (rs := [4]) (by kernel_rfl) (by simp) (AllReady.cons rfl (fun K hK => ?_) AllReady.nil)
              · go_simp
                refine hK _ _ ?_
                clear hK K
                refine wpAny_ready (rs := [7]) (by kernel_rfl) (by simp) (AllReady.cons rfl (fun K hK => ?_) AllReady.nil)
                · refine step_append_own rfl (.tmp 14) (.tmp 16) 54 rfl B 75 i84 (.agg #[.int .i64 0, .nilFunc]) 2 16 Tryd.underlying54 hi84 hz0 hz1 hz2 rfl (by decide) v' (n0 + pre.length) (xs ++ flatI (pre.map (·.2))) (by simp [Act.eval]) (hown'.drew.alloc _) ⟨W.heap.size, 0, none⟩ 1 1 [.int .i64 xm, .func xf xa xc] (by simp [Act.eval]) rfl (cell_two_at _ _ _ _ _ rfl) (fun x hx => by simp at hx; rcases hx with rfl | rfl <;> rfl) (by unfold maxLen; omega) (by omega) (by simp; omega) ?_
                  intro v2 w3 hown3 hgrow3 hat3
                  obtain ⟨g3, cap3, rfl, hcap3⟩ := own_form hown3 (by omega)
                  have hR3 := (hgrow3.block R (by simp; omega) hRrow).trans (block_keep (w := W.drew) _ hR')
                  have hX3 := (Boxed.alloc (show Boxed W.drew w.heap.size 78 (.pointer (some ⟨R, 0, none⟩)) from hbx) _).kept hgrow3 hXrow
                  have cX3 := hX3.cell
                  have c23 : w3.cell? ⟨R, 2, none⟩ = some v' := by simp [World.cell?, hR3]
                  have f23 : w3.frozen? ⟨R, 2, none⟩ = false := by simp [World.frozen?, hR3]
                  try go_simp
                  refine hK _ _ ?_
                  clear hK K
                  refine wpAny_take (i := 8) (v := ?_) rfl (by kernel_rfl) (by kernel_rfl) (by kernel_rfl) (fun _ _ _ h => h) (Or.inl ⟨by rfl, ?_⟩) ?_
                  rotate_left
                  focus (intro w; go_simp; try with_reducible rfl)
                  refine wpAny_take (i := 9) (v := ?_) rfl (by kernel_rfl) (by kernel_rfl) (by kernel_rfl) (fun _ _ _ h => h) (Or.inl ⟨by rfl, ?_⟩) ?_
                  rotate_left
                  focus (intro w; go_simp; try with_reducible rfl)
                  refine wpAny_ready (rs := [10]) (by kernel_rfl) (by simp) (AllReady.cons rfl (fun K hK => ?_) AllReady.nil)
                  go_simp
                  refine hK _ _ ?_
                  clear hK K
                  refine wpAny_done (by kernel_rfl) ?_ _
                  exact hEnd _ _ _ hown3 hgrow3 hR3 hat3
            · go_simp
              refine hK _ _ ?_
              clear hK K
              refine wpAny_ready (rs := [0, 7]) (by kernel_rfl) (by simp) (AllReady.cons rfl (fun K hK => ?_) (AllReady.cons rfl (fun K hK => ?_) AllReady.nil))
              · go_simp
                refine hK _ _ ?_
                clear hK K
                refine wpAny_ready (rs := [7]) (by kernel_rfl) (by simp) (AllReady.cons rfl (fun K hK => ?_) AllReady.nil)
                · refine step_append_own rfl (.tmp 14) (.tmp 16) 54 rfl B 75 i84 (.agg #[.int .i64 0, .nilFunc]) 2 16 Tryd.underlying54 hi84 hz0 hz1 hz2 rfl (by decide) v' (n0 + pre.length) (xs ++ flatI (pre.map (·.2))) (by simp [Act.eval]) (hown'.drew.alloc _) ⟨W.heap.size, 0, none⟩ 1 1 [.int .i64 xm, .func xf xa xc] (by simp [Act.eval]) rfl (cell_two_at _ _ _ _ _ rfl) (fun x hx => by simp at hx; rcases hx with rfl | rfl <;> rfl) (by unfold maxLen; omega) (by omega) (by simp; omega) ?_
                  intro v2 w3 hown3 hgrow3 hat3
                  obtain ⟨g3, cap3, rfl, hcap3⟩ := own_form hown3 (by omega)
                  have hR3 := (hgrow3.block R (by simp; omega) hRrow).trans (block_keep (w := W.drew) _ hR')
                  have hX3 := (Boxed.alloc (show Boxed W.drew w.heap.size 78 (.pointer (some ⟨R, 0, none⟩)) from hbx) _).kept hgrow3 hXrow
                  have cX3 := hX3.cell
                  have c23 : w3.cell? ⟨R, 2, none⟩ = some v' := by simp [World.cell?, hR3]
                  have f23 : w3.frozen? ⟨R, 2, none⟩ = false := by simp [World.frozen?, hR3]
                  try go_simp
                  refine hK _ _ ?_
                  clear hK K
                  refine wpAny_take (i := 8) (v := ?_) rfl (by kernel_rfl) (by kernel_rfl) (by kernel_rfl) (fun _ _ _ h => h) (Or.inl ⟨by rfl, ?_⟩) ?_
                  rotate_left
                  focus (intro w; go_simp; try with_reducible rfl)
                  refine wpAny_take (i := 9) (v := ?_) rfl (by kernel_rfl) (by kernel_rfl) (by kernel_rfl) (fun _ _ _ h => h) (Or.inl ⟨by rfl, ?_⟩) ?_
                  rotate_left
                  focus (intro w; go_simp; try with_reducible rfl)
                  refine wpAny_ready (rs := [10]) (by kernel_rfl) (by simp) (AllReady.cons rfl (fun K hK => ?_) AllReady.nil)
                  go_simp
                  refine hK _ _ ?_
                  clear hK K
                  refine wpAny_done (by kernel_rfl) ?_ _
                  exact hEnd _ _ _ hown3 hgrow3 hR3 hat3
              · refine step_append_own rfl (.tmp 14) (.tmp 16) 54 rfl B 75 i84 (.agg #[.int .i64 0, .nilFunc]) 2 16 Tryd.underlying54 hi84 hz0 hz1 hz2 rfl (by decide) v' (n0 + pre.length) (xs ++ flatI (pre.map (·.2))) (by simp [Act.eval]) (hown'.drew.alloc _) ⟨W.heap.size, 0, none⟩ 1 1 [.int .i64 xm, .func xf xa xc] (by simp [Act.eval]) rfl (cell_two_at _ _ _ _ _ rfl) (fun x hx => by simp at hx; rcases hx with rfl | rfl <;> rfl) (by unfold maxLen; omega) (by omega) (by simp; omega) ?_
                intro v2 w3 hown3 hgrow3 hat3
                obtain ⟨g3, cap3, rfl, hcap3⟩ := own_form hown3 (by omega)
                have hR3 := (hgrow3.block R (by simp; omega) hRrow).trans (block_keep (w := W.drew) _ hR')
                have hX3 := (Boxed.alloc (show Boxed W.drew w.heap.size 78 (.pointer (some ⟨R, 0, none⟩)) from hbx) _).kept hgrow3 hXrow
                have cX3 := hX3.cell
                have c23 : w3.cell? ⟨R, 2, none⟩ = some v' := by simp [World.cell?, hR3]
                have f23 : w3.frozen? ⟨R, 2, none⟩ = false := by simp [World.frozen?, hR3]
                try go_simp
                refine hK _ _ ?_
                clear hK K
                refine wpAny_ready (rs := [0]) (by kernel_rfl) (by simp) (AllReady.cons rfl (fun K hK => ?_) AllReady.nil)
                · go_simp
                  refine hK _ _ ?_
                  clear hK K
                  refine wpAny_take (i := 8) (v := ?_) rfl (by kernel_rfl) (by kernel_rfl) (by kernel_rfl) (fun _ _ _ h => h) (Or.inl ⟨by rfl, ?_⟩) ?_
                  rotate_left
                  focus (intro w; go_simp; try with_reducible rfl)
                  refine wpAny_take (i := 9) (v := ?_) rfl (by kernel_rfl) (by kernel_rfl) (by kernel_rfl) (fun _ _ _ h => h) (Or.inl ⟨by rfl, ?_⟩) ?_
                  rotate_left
                  focus (intro w; go_simp; try with_reducible rfl)
                  refine wpAny_ready (rs := [10]) (by kernel_rfl) (by simp) (AllReady.cons rfl (fun K hK => ?_) AllReady.nil)
                  go_simp
                  refine hK _ _ ?_
                  clear hK K
                  refine wpAny_done (by kernel_rfl) ?_ _
                  exact hEnd _ _ _ hown3 hgrow3 hR3 hat3
  case done =>
    rintro D ys W hD rfl ⟨v', hR', hown', hbx, hbel, hk2, hfr, hsW⟩ hK
    gi_wp2
    refine ⟨by simp, .inl ⟨_, _, rfl, run_takeDeferred hK, ?_⟩⟩
    refine ⟨_, results_none rfl _ _ _, ⟨_, rfl⟩, v', ?_, ?_, ?_, fun k hk h1 h2 => ?_, ?_⟩
    · exact (putObj_other W D R _ (by omega)).trans hR'
    · have := ownsRow_putObj hown' (.deferred none) hK rfl
      rw [bk_length its _ 0 (by omega), bk_items its _ 0 (by omega), List.drop_zero] at this
      exact this
    · exact hbel.trans (belowK_b (w := W0) (by omega) W D _ _ hD hK rfl rfl)
    · exact (putObj_other W D k _ (by omega)).trans (hk2 k hk h1 h2)
    · rcases hfr with h | h
      · exact .inl h
      · exact .inr (fun k hk => by have := h k hk; omega)
  case stop =>
    rintro D c pre W _ _ h _
    exact h.elim
end Go.Proofs.YtpbjdfobbnpjfaaDoor
