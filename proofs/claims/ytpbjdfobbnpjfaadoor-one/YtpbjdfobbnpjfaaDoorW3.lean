/-
  WALKS, 3: the directories that are open.
-/
import Derived.Test.YtpbjdfobbnpjfaaDoorW2
import Derived.Test.YtpbjdfobbnpjfaaDoorM3
namespace Go.Proofs.YtpbjdfobbnpjfaaDoor
open Go.RowKit

/-- What is owned stays owned where nothing old has turned. -/
theorem own_below {w w' : World} {B : Nat} {e : TypeId} {s : Nat} {v : Value} {n : Nat} {xs : List Value} (h : w.ownsRow B e s v n xs) (hb : Below w.heap.size w w') : w'.ownsRow B e s v n xs :=
  h.kept (row := none) ⟨hb.os, hb.tape, hb.output, hb.size, fun k hk _ => hb.block k hk⟩ (by cases v.ownBlock <;> simp)

theorem eqB_true {a b : ByteArray} (h : a = b) : (a.toList == b.toList) = true := by subst h; simp
theorem eqB_false {a b : ByteArray} (h : ¬ a = b) : (a.toList == b.toList) = false := by
  rw [ByteArray.toList_eq, ByteArray.toList_eq]
  exact beq_eq_false_iff_ne.2 (fun e => h (WideShapes.bytes_inj e))

set_option maxRecDepth 20000 in
set_option maxHeartbeats 1000000 in
theorem countAbove_any (base : Nat) (v : Value) (ds : List (ByteArray × ByteArray)) (p : ByteArray) (w : World) (hown : w.ownsRow base 87 2 v ds.length (flat2 ds)) (hlen : ds.length ≤ 1000) :
    Calls Tryd.prog 42 #[v, .string p] w fun e w' => e = .returned (.int .i64 (above ds p)) ∧ Below w.heap.size w w' := by
  obtain ⟨A, hA⟩ : ∃ A, above ds p = A := ⟨_, rfl⟩
  rw [hA]
  have HA := hide hA
  clear hA
  rcases hown.2 with ⟨rfl, h0⟩ | ⟨g, cap, cur, rfl, hg⟩
  · have hA0 : A = 0 := by rw [← HA.out, List.eq_nil_of_length_eq_zero h0]; rfl
    subst hA0
    clear hown HA
    go_enter Tryd.func42, Tryd.ntmps42
    go_wp2
    refine wp_loop_rounds 1 ?_
    rw [rounds_succ]
    go_wp2
    go_ret
    exact ⟨rfl, Below.refl _ _⟩
  · clear hg
    go_enter Tryd.func42, Tryd.ntmps42
    go_wp2
    go_loopw [5, 6, 9] (fun _ _ i w1 => ∃ k : Nat, k ≤ ds.length ∧ i = .int .i64 k ∧ Below w.heap.size w w1 ∧ Hid (∀ j (hj : j < ds.length), j < k → ds[j].1 ≠ p)) (fun _ _ i _ => ds.length - (intOf i).toNat)
    case atStart => exact ⟨0, by omega, rfl, Below.refl _ _, fun j _ h => by omega⟩
    case round =>
      rename_i i5 i6 i9
      obtain ⟨k, hk, rfl, hbel, hno⟩ := hrel
      by_cases hlt : k < ds.length
      · have hownr := own_below hown hbel
        have c0 := (hownr.cellAt (k * 2) (by omega)).trans (flat2_0 ds k hlt)
        have c1 := (hownr.cellAt (k * 2 + 1) (by omega)).trans (flat2_1 ds k hlt)
        by_cases he : ds[k].1 = p
        · have hb := eqB_true he
          have hA0 : A = k + 1 := by rw [← HA.out]; exact above_at ds p k hlt he hno.out
          subst hA0
          clear he
          go_wp2
          go_ret
          exact ⟨by go_num, hbel.alloc hbel.size _⟩
        · have hb := eqB_false he
          have hno' : Hid (∀ j (hj : j < ds.length), j < k + 1 → ds[j].1 ≠ p) := fun j hj h => by
            by_cases e : j = k
            · subst e; exact he
            · exact hno.out j hj (by omega)
          clear he
          go_wp2
          go_roundw
          case rel => exact ⟨k + 1, by omega, by go_num, hbel.alloc hbel.size _, hno'⟩
          case measure => simp [intOf]; omega
      · have hA0 : A = 0 := by rw [← HA.out]; exact above_none ds p (fun j hj => hno.out j hj (by omega))
        subst hA0
        go_wp2
        go_ret
        exact ⟨rfl, hbel⟩

/-- The frame of what writes one row of elements of type e from 'base' on. -/
structure KE (e : TypeId) (base : Nat) (w w' : World) : Prop where
  bel : Below base w w'
  oth : Lib.OthersKept e none w w'
theorem KE.refl (e : TypeId) (base : Nat) (w : World) : KE e base w w := ⟨Below.refl _ _, Lib.OthersKept.refl _ _ _⟩
theorem KE.trans {e : TypeId} {base : Nat} {a b c : World} (h : KE e base a b) (k : KE e base b c) : KE e base a c := ⟨h.bel.trans k.bel, h.oth.trans k.oth⟩
theorem KE.alloc {e : TypeId} {base : Nat} {a w : World} (h : KE e base a w) (hB : base ≤ w.heap.size) (o : Obj) : KE e base a (w.alloc o) := ⟨h.bel.alloc hB o, h.oth.alloc o⟩
theorem KE.drew {e : TypeId} {base : Nat} {a w : World} (h : KE e base a w) : KE e base a w.drew := ⟨h.bel.drew, h.oth.drew⟩
theorem KE.drewN {e : TypeId} {base : Nat} {a w : World} (h : KE e base a w) : ∀ q, KE e base a (w.drewN q)
  | 0 => h
  | q + 1 => (KE.drewN h q).drew
theorem KE.grown {e : TypeId} {base s : Nat} {a w w' : World} {v : Value} {n : Nat} {xs : List Value} (h : KE e base a w) (hown : w.ownsRow base e s v n xs) (hg : w.grownBy w' v.ownBlock) (hB : base ≤ w.heap.size) : KE e base a w' :=
  ⟨h.bel.grown hg hB (fun k hk => (hown.lt k hk).1), h.oth.grown hg (own_kind hown)⟩
theorem KE.size {e : TypeId} {base : Nat} {w w' : World} (h : KE e base w w') : w.heap.size ≤ w'.heap.size := h.bel.size
theorem KE.block {e : TypeId} {base : Nat} {w w' : World} (h : KE e base w w') {b : Nat} {c : Array Value} {t : TypeId} {fz : Nat × Nat} (ht : t ≠ e) (hb : w.heap[b]? = some (.cells c t fz)) : w'.heap[b]? = some (.cells c t fz) :=
  h.oth b _ hb (by simp) (fun c' fz' e => by cases e; exact ht rfl)
/-- Where nothing old has turned at all. -/
theorem KE.of_below {e : TypeId} {base : Nat} {w w' : World} (h : Below w.heap.size w w') (hB : base ≤ w.heap.size) : KE e base w w' :=
  ⟨h.mono hB, fun k o hk _ _ => by rw [h.block k (Array.getElem?_eq_some_iff.1 hk).1]; exact hk⟩

theorem cell_two_at (w : World) (a b : Value) (t : TypeId) (n : Nat) (h : n = w.heap.size) : ∀ j u, [a, b][j]? = some u → (w.alloc (.cells #[a, b] t)).cell? ((⟨n, 0, none⟩ : Addr).add j) = some u := by
  subst h; exact cell_two_new w a b t

def enterL (ds : List (ByteArray × ByteArray)) (path : ByteArray) (kind : Int) : List (ByteArray × ByteArray) := if kind = 4 then ds ++ [(prefixIn path, ⟨#[]⟩)] else ds
theorem Tryd.info87 : (Tryd.prog.info? 87).map (fun i => (i.zero, i.size, i.bytes)) = some (some (.agg #[.string ⟨#[]⟩, .string ⟨#[]⟩]), 2, 32) := by kernel_rfl

set_option maxRecDepth 20000 in
set_option maxHeartbeats 1000000 in
theorem enter_any (base : Nat) (v : Value) (ds : List (ByteArray × ByteArray)) (path : ByteArray) (kind : Int) (data : ByteArray) (w : World) (hown : w.ownsRow base 87 2 v ds.length (flat2 ds)) (hbase : base ≤ w.heap.size) (hlen : ds.length ≤ 1000) (hs : path.size ≤ 1000000000) :
    Calls Tryd.prog 40 #[v, .agg #[.string path, .int .i64 kind, .string data]] w fun e w' => ∃ v', e = .returned v' ∧ w'.ownsRow base 87 2 v' (enterL ds path kind).length (flat2 (enterL ds path kind)) ∧ KE 87 base w w' := by
  obtain ⟨i0, hi, hz0, hz1, hz2⟩ := info_parts Tryd.info87
  by_cases h4 : kind = 4
  · subst h4
    have hE : enterL ds path 4 = ds ++ [(prefixIn path, ⟨#[]⟩)] := by simp [enterL]
    rw [hE]
    clear hE
    have hp := hide (prefixIn_any path (w.alloc (.cells #[.string path, .int .i64 4, .string data] 37)) hs)
    generalize prefixIn path = q at hp
    go_enter Tryd.func40, Tryd.ntmps40
    go_wp2_with fail
    refine hp.out.mono ?_
    rintro e w1 ⟨rfl, rfl⟩
    clear hp
    go_wp2_with (at_builtin; refine wpList_append_own _ rfl (.tmp 8) (.tmp 13) 57 rfl base 87 i0 (.agg #[.string ⟨#[]⟩, .string ⟨#[]⟩]) 2 32 Tryd.underlying57 hi hz0 hz1 hz2 rfl (by decide) _ _ _ rfl ((hown.alloc _).alloc _) ⟨w.heap.size + 1, 0, none⟩ 1 1 [.string q, .string ⟨#[]⟩] rfl rfl (cell_two_at _ _ _ _ _ (by simp)) (fun x hx => by simp at hx; rcases hx with rfl | rfl <;> rfl) (by unfold maxLen; omega) (by omega) (by simp; omega) ?_; intro v' w3 hown3 hgrow3 hnil3)
    go_ret
    refine ⟨_, rfl, ?_, ?_⟩
    · rw [flat2_append, List.length_append]
      exact hown3
    · exact (((KE.refl 87 base w).alloc hbase _).alloc (by simp; omega) _).grown ((hown.alloc _).alloc _) hgrow3 (by simp; omega)
  · have hE : enterL ds path kind = ds := by simp [enterL, h4]
    have h4b : (kind == 4) = false := beq_eq_false_iff_ne.2 h4
    rw [hE]
    clear hE h4
    go_enter Tryd.func40, Tryd.ntmps40
    go_wp2
    go_ret
    exact ⟨_, rfl, hown.alloc _, (KE.refl 87 base w).alloc hbase _⟩
end Go.Proofs.YtpbjdfobbnpjfaaDoor
