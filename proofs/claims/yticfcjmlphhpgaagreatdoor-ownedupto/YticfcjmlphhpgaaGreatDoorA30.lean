import Derived.Test.YticfcjmlphhpgaaGreatDoorA25
/-
  THE DOCUMENT's STORES, 3: an entry is put among those that rise.
-/
namespace Go.Proofs.YticfcjmlphhpgaaGreatDoor
open Go.RowKit

theorem Tryz.info76 : (Tryz.prog.info? 76).map (fun i => (i.zero, i.size, i.bytes)) = some (some (.agg #[.string ⟨#[]⟩, .slice none 0 0, .slice none 0 0]), 3, 64) := by kernel_rfl
/-- How many stand below a path. -/
def belowN (l : List REn) (p : ByteArray) : Nat := l.findIdx fun x => !bl x.path.data.toList p.data.toList
theorem belowN_eq {l : List REn} {p : ByteArray} (j : Nat) (hj : j ≤ l.length) (hall : ∀ k (hk : k < l.length), k < j → bl l[k].path.data.toList p.data.toList = true) (hend : ∀ (h : j < l.length), bl l[j].path.data.toList p.data.toList = false) : belowN l p = j := by
  unfold belowN
  by_cases h : j < l.length
  · rw [List.findIdx_eq h]
    exact ⟨by simp [hend h], fun k hk => by simp [hall k (by omega) hk]⟩
  · have e : j = l.length := by omega
    subst e
    rw [List.findIdx_eq_length]
    intro x hx
    obtain ⟨k, hk, rfl⟩ := List.getElem_of_mem hx
    simp [hall k hk hk]
def insR (l : List REn) (x : REn) : List REn := l.take (belowN l x.path) ++ [x] ++ l.drop (belowN l x.path)
/-- Cells of entries, from some place on. -/
theorem cellsR {w : World} {b off : Nat} : ∀ {l : List REn}, (∀ j (h : j < l.length), w.cell? ⟨b, off + j * 3, none⟩ = some (.string l[j].path) ∧ w.cell? ⟨b, off + j * 3 + 1, none⟩ = some l[j].tree ∧ w.cell? ⟨b, off + j * 3 + 2, none⟩ = some l[j].refs) → ∀ j u, (flatR l)[j]? = some u → w.cell? ((⟨b, off, none⟩ : Addr).add j) = some u := by
  intro l h j u hj
  have hl : j < l.length * 3 := by rw [← flatR_length]; exact (List.getElem?_eq_some_iff.1 hj).1
  have hadd : ∀ i, (⟨b, off, none⟩ : Addr).add i = ⟨b, off + i, none⟩ := fun i => by unfold Addr.add; split <;> simp_all
  have hd : j / 3 < l.length := by omega
  obtain ⟨c0, c1, c2⟩ := h (j / 3) hd
  obtain ⟨g0, g1, g2⟩ := flatR_get l (j / 3) hd
  rw [hadd]
  rcases (show j = j / 3 * 3 ∨ j = j / 3 * 3 + 1 ∨ j = j / 3 * 3 + 2 by omega) with e | e | e
  · rw [e] at hj ⊢; rw [g0] at hj; rw [← hj]; exact c0
  · rw [e] at hj ⊢; rw [g1] at hj; rw [← hj]; exact c1
  · rw [e] at hj ⊢; rw [g2] at hj; rw [← hj]; exact c2

theorem dropC {w w3 : World} {b off N : Nat} {l : List REn} (h : ∀ j (h : j < l.length), w.cell? ⟨b, off + j * 3, none⟩ = some (.string l[j].path) ∧ w.cell? ⟨b, off + j * 3 + 1, none⟩ = some l[j].tree ∧ w.cell? ⟨b, off + j * 3 + 2, none⟩ = some l[j].refs) (hN : N ≤ l.length) (hk : ∀ a : Addr, a.block = b → w3.cell? a = w.cell? a) :
    ∀ k (hk : k < (l.drop N).length), w3.cell? ⟨b, off + N * 3 + k * 3, none⟩ = some (.string (l.drop N)[k].path) ∧ w3.cell? ⟨b, off + N * 3 + k * 3 + 1, none⟩ = some (l.drop N)[k].tree ∧ w3.cell? ⟨b, off + N * 3 + k * 3 + 2, none⟩ = some (l.drop N)[k].refs := by
  intro k hk2
  have hlt : N + k < l.length := by rw [List.length_drop] at hk2; omega
  obtain ⟨c0, c1, c2⟩ := h (N + k) hlt
  rw [List.getElem_drop, hk _ rfl, hk _ rfl, hk _ rfl, show off + N * 3 + k * 3 = off + (N + k) * 3 by omega]
  exact ⟨c0, c1, c2⟩
set_option maxRecDepth 20000 in
set_option maxHeartbeats 2000000 in
theorem rput_some (b off cap : Nat) (l : List REn) (x : REn) (w : World) (hbl : b < w.heap.size) (hcap : l.length ≤ cap) (hX : ∀ j (h : j < l.length), w.cell? ⟨b, off + j * 3, none⟩ = some (.string l[j].path) ∧ w.cell? ⟨b, off + j * 3 + 1, none⟩ = some l[j].tree ∧ w.cell? ⟨b, off + j * 3 + 2, none⟩ = some l[j].refs) (hl : l.length ≤ 1000) (hpos : 0 < l.length) :
    Calls Tryz.prog 41 #[.slice (some ⟨b, off, none⟩) l.length cap, .agg #[.string x.path, x.tree, x.refs]] w fun e w' => ∃ v, e = .returned v ∧ w'.ownsRow w.heap.size 76 3 v (l.length + 1) (flatR (insR l x)) ∧ Below w.heap.size w w' := by
  obtain ⟨i76, hi, hz0, hz1, hz2⟩ := info_parts Tryz.info76
  obtain ⟨xp, ta, tn, tc, ra, rn, rc⟩ := x
  obtain ⟨N, hN⟩ : ∃ N, belowN l xp = N := ⟨_, rfl⟩
  unfold REn.tree REn.refs insR
  simp only
  rw [hN]
  have HN := hide hN
  have hb0 := (Below.refl _ w).alloc (Nat.le_refl _) (.cells #[.string xp, .slice ta tn tc, .slice ra rn rc] 76)
  have k0 := block_new w (.cells #[.string xp, .slice ta tn tc, .slice ra rn rc] 76)
  have HX := hide hX
  have HB0 := hide hb0
  have K0 := hide k0
  clear hX hN hb0 k0
  go_enter Tryz.func41, Tryz.ntmps41
  go_wp2
  generalize w.alloc (.cells #[.string xp, .slice ta tn tc, .slice ra rn rc] 76) = W0 at *
  go_loopw [5] (fun i w1 => ∃ j n : Nat, j ≤ l.length ∧ i = .int .i64 j ∧ Hid (w1 = W0.drewN n) ∧ Hid (∀ k (hk : k < l.length), k < j → bl l[k].path.data.toList xp.data.toList = true)) (fun i _ => l.length - (intOf i).toNat)
  case atStart => exact ⟨0, 0, by omega, rfl, rfl, fun k _ hk => by omega⟩
  case round =>
    obtain ⟨j, n, hj, rfl, HW, hall⟩ := hrel
    have hcl : ∀ a, wr.cell? a = W0.cell? a := fun a => by rw [HW.out]; simp
    have e0 : wr.cell? ⟨w.heap.size, 0, none⟩ = some (.string xp) := by rw [hcl]; simp [World.cell?, K0.out]
    have e1 : wr.cell? ⟨w.heap.size, 1, none⟩ = some (.slice ta tn tc) := by rw [hcl]; simp [World.cell?, K0.out]
    have e2 : wr.cell? ⟨w.heap.size, 2, none⟩ = some (.slice ra rn rc) := by rw [hcl]; simp [World.cell?, K0.out]
    by_cases hlt : j < l.length
    · have c0 := ((hcl _).trans (HB0.out.cell (p := ⟨b, off + j * 3, none⟩) hbl)).trans (HX.out j hlt).1
      have hltz : (j : Int) < l.length := by omega
      have hdec : decide ((j : Int) < l.length) = true := decide_eq_true hltz
      cases hbl2 : bl l[j].path.data.toList xp.data.toList with
      | true =>
        have hall' : Hid (∀ k (hk : k < l.length), k < j + 1 → bl l[k].path.data.toList xp.data.toList = true) := fun k hk hkj => by
          by_cases e' : k = j
          · subst e'; exact hbl2
          · exact hall.out k hk (by omega)
        have hb : Op.bytesLess l[j].path.toList xp.toList = true := by rw [ByteArray.toList_eq, ByteArray.toList_eq]; exact hbl2
        generalize l[j].path = z at c0 hb
        clear hall hcl hbl2
        go_wp2
        go_quiet (fail)
        go_wp2
        go_roundw
        case rel => exact ⟨j + 1, n + nq, by omega, by go_num, by show _ = _; rw [HW.out, World.drewN_drewN], hall'⟩
        case measure => simp [intOf]; omega
      | false =>
        obtain rfl : N = j := by rw [← HN.out]; exact belowN_eq j (by omega) hall.out (fun _ => hbl2)
        have hb : Op.bytesLess l[N].path.toList xp.toList = false := by rw [ByteArray.toList_eq, ByteArray.toList_eq]; exact hbl2
        generalize l[N].path = z at c0 hb
        clear hall hcl hbl2 HN
        go_wp2
        go_quiet (fail)
        have HB1 : Hid (Below w.heap.size w (wr.drewN nq)) := by rw [HW.out, World.drewN_drewN]; exact below_drewN HB0.out _
        have K1 : Hid ((wr.drewN nq).heap[w.heap.size]? = some (.cells #[.string xp, .slice ta tn tc, .slice ra rn rc] 76 (0, 0))) := by rw [HW.out, World.drewN_drewN]; exact K0.out
        clear c0 e0 e1 e2
        generalize wr.drewN nq = W1 at *
        have hsz1 := HB1.out.size
        have HC1 : Hid (∀ j (h : j < l.length), W1.cell? ⟨b, off + j * 3, none⟩ = some (.string l[j].path) ∧ W1.cell? ⟨b, off + j * 3 + 1, none⟩ = some l[j].tree ∧ W1.cell? ⟨b, off + j * 3 + 2, none⟩ = some l[j].refs) := fun j h => by
          obtain ⟨a0, a1, a2⟩ := HX.out j h
          exact ⟨(HB1.out.cell hbl).trans a0, (HB1.out.cell hbl).trans a1, (HB1.out.cell hbl).trans a2⟩
        have e0 : W1.cell? ⟨w.heap.size, 0, none⟩ = some (.string xp) := by simp [World.cell?, K1.out]
        have hblk : w.heap.size < W1.heap.size := lt_of_block K1.out
        have HF1 : Hid (∀ k (hk : k < (l.take N).length), W1.cell? ⟨b, off + k * 3, none⟩ = some (.string (l.take N)[k].path) ∧ W1.cell? ⟨b, off + k * 3 + 1, none⟩ = some (l.take N)[k].tree ∧ W1.cell? ⟨b, off + k * 3 + 2, none⟩ = some (l.take N)[k].refs) := fun k hk => by
          have hk2 : k < l.length := by rw [List.length_take] at hk; omega
          rw [List.getElem_take]; exact HC1.out k hk2
        go_wp2_with (at_builtin; first
          | (refine wpList_append_own _ rfl (.const (.slice none 0 0)) (.tmp 25) 46 rfl W1.heap.size 76 i76 (.agg #[.string ⟨#[]⟩, .slice none 0 0, .slice none 0 0]) 3 64 Tryz.underlying46 hi hz0 hz1 hz2 rfl (by decide) (.slice none 0 0) 0 [] rfl (World.ownsRow_nil _ _ _ _) ⟨b, off, none⟩ N cap (flatR (l.take N)) rfl (by rw [flatR_length, List.length_take]; omega) (cellsR HF1.out) (flatR_one _) (by unfold maxLen; omega) (by omega) (Nat.le_refl _) ?_; intro v2 w2 hown2 hgrow2 hnil2; rw [Nat.zero_add, List.nil_append] at hown2; obtain ⟨a2, c2, rfl, hc2⟩ := own_sl hown2; have HB2 := hide ((Below.refl W1.heap.size W1).grown hgrow2 (Nat.le_refl _) (fun k hk => by cases hk)); have K2 := hide ((HB2.out.block _ hblk).trans K1.out); have g0 : w2.cell? ⟨w.heap.size, 0, none⟩ = some (.string xp) := (by simp [World.cell?, K2.out]); have g1 : w2.cell? ⟨w.heap.size, 1, none⟩ = some (.slice ta tn tc) := (by simp [World.cell?, K2.out]); have g2 : w2.cell? ⟨w.heap.size, 2, none⟩ = some (.slice ra rn rc) := (by simp [World.cell?, K2.out]); have HO2 := hide hown2; have hsz2 := HB2.out.size; clear hown2 hgrow2 hnil2)
          | (refine wpList_append_own _ rfl (.tmp 27) (.tmp 29) 46 rfl W1.heap.size 76 i76 (.agg #[.string ⟨#[]⟩, .slice none 0 0, .slice none 0 0]) 3 64 Tryz.underlying46 hi hz0 hz1 hz2 rfl (by decide) (.slice a2 N c2) N (flatR (l.take N)) rfl (HO2.out.alloc _) ⟨w2.heap.size, 0, none⟩ 1 1 [.string xp, .slice ta tn tc, .slice ra rn rc] rfl rfl (cell_three_at _ _ _ _ _ _ rfl) (fun y hy => by simp at hy; rcases hy with rfl | rfl | rfl <;> rfl) (by unfold maxLen; omega) (by omega) (by simp; omega) ?_; intro v3 w3 hown3 hgrow3 hnil3; obtain ⟨a3, c3, rfl, hc3⟩ := own_sl hown3; have HB3 := hide ((HB2.out.alloc hsz2 _).grown hgrow3 (by simp; omega) (fun k hk => (HO2.out.lt k hk).1)); have HO3 := hide hown3; have hsz3 := HB3.out.size; have HF3 : Hid (∀ k (hk : k < (l.drop N).length), w3.cell? ⟨b, off + N * 3 + k * 3, none⟩ = some (.string (l.drop N)[k].path) ∧ w3.cell? ⟨b, off + N * 3 + k * 3 + 1, none⟩ = some (l.drop N)[k].tree ∧ w3.cell? ⟨b, off + N * 3 + k * 3 + 2, none⟩ = some (l.drop N)[k].refs) := dropC HC1.out hj (fun a ha => HB3.out.cell (by omega)); clear hown3 hgrow3 hnil3)
          | (refine wpList_append_own _ rfl (.tmp 31) (.tmp 34) 46 rfl W1.heap.size 76 i76 (.agg #[.string ⟨#[]⟩, .slice none 0 0, .slice none 0 0]) 3 64 Tryz.underlying46 hi hz0 hz1 hz2 rfl (by decide) (.slice a3 (N + 1) c3) (N + 1) (flatR (l.take N) ++ [.string xp, .slice ta tn tc, .slice ra rn rc]) rfl HO3.out ⟨b, off + N * 3, none⟩ (l.length - N) (cap - N) (flatR (l.drop N)) rfl (by rw [flatR_length, List.length_drop]) (cellsR HF3.out) (flatR_one _) (by unfold maxLen; omega) (by omega) (by omega) ?_; intro v4 w4 hown4 hgrow4 hnil4; have HB4 := hide (HB3.out.grown hgrow4 hsz3 (fun k hk => (HO3.out.lt k hk).1)); have HO4 := hide hown4; clear hown4 hgrow4 hnil4))
        go_ret
        refine ⟨_, rfl, ?_, HB1.out.trans (HB4.out.mono hsz1)⟩
        have := own_base HO4.out (show w.heap.size ≤ W1.heap.size by omega)
        rw [flatR_append, flatR_append, show N + 1 + (l.length - N) = l.length + 1 by omega] at *
        exact this
    · obtain rfl : N = j := by rw [← HN.out]; exact belowN_eq j (by omega) hall.out (fun h => absurd h hlt)
      have hdec : decide ((N : Int) < l.length) = false := decide_eq_false (by omega)
      clear hall hcl HN
      by_cases hcN : cap = N
      · subst hcN
        have hN0 : ¬ cap = 0 := by omega
        go_wp2
        go_quiet (fail)
        have HB1 : Hid (Below w.heap.size w (wr.drewN nq)) := by rw [HW.out, World.drewN_drewN]; exact below_drewN HB0.out _
        have K1 : Hid ((wr.drewN nq).heap[w.heap.size]? = some (.cells #[.string xp, .slice ta tn tc, .slice ra rn rc] 76 (0, 0))) := by rw [HW.out, World.drewN_drewN]; exact K0.out
        clear e0 e1 e2
        generalize wr.drewN nq = W1 at *
        have hsz1 := HB1.out.size
        have HC1 : Hid (∀ j (h : j < l.length), W1.cell? ⟨b, off + j * 3, none⟩ = some (.string l[j].path) ∧ W1.cell? ⟨b, off + j * 3 + 1, none⟩ = some l[j].tree ∧ W1.cell? ⟨b, off + j * 3 + 2, none⟩ = some l[j].refs) := fun j h => by
          obtain ⟨a0, a1, a2⟩ := HX.out j h
          exact ⟨(HB1.out.cell hbl).trans a0, (HB1.out.cell hbl).trans a1, (HB1.out.cell hbl).trans a2⟩
        have e0 : W1.cell? ⟨w.heap.size, 0, none⟩ = some (.string xp) := by simp [World.cell?, K1.out]
        have hblk : w.heap.size < W1.heap.size := lt_of_block K1.out
        have HF1 : Hid (∀ k (hk : k < (l.take cap).length), W1.cell? ⟨b, off + k * 3, none⟩ = some (.string (l.take cap)[k].path) ∧ W1.cell? ⟨b, off + k * 3 + 1, none⟩ = some (l.take cap)[k].tree ∧ W1.cell? ⟨b, off + k * 3 + 2, none⟩ = some (l.take cap)[k].refs) := fun k hk => by
          have hk2 : k < l.length := by rw [List.length_take] at hk; omega
          rw [List.getElem_take]; exact HC1.out k hk2
        go_wp2_with (at_builtin; first
          | (refine wpList_append_own _ rfl (.const (.slice none 0 0)) (.tmp 25) 46 rfl W1.heap.size 76 i76 (.agg #[.string ⟨#[]⟩, .slice none 0 0, .slice none 0 0]) 3 64 Tryz.underlying46 hi hz0 hz1 hz2 rfl (by decide) (.slice none 0 0) 0 [] rfl (World.ownsRow_nil _ _ _ _) ⟨b, off, none⟩ cap cap (flatR (l.take cap)) rfl (by rw [flatR_length, List.length_take]; omega) (cellsR HF1.out) (flatR_one _) (by unfold maxLen; omega) (by omega) (Nat.le_refl _) ?_; intro v2 w2 hown2 hgrow2 hnil2; rw [Nat.zero_add, List.nil_append] at hown2; obtain ⟨a2, c2, rfl, hc2⟩ := own_sl hown2; have HB2 := hide ((Below.refl W1.heap.size W1).grown hgrow2 (Nat.le_refl _) (fun k hk => by cases hk)); have K2 := hide ((HB2.out.block _ hblk).trans K1.out); have g0 : w2.cell? ⟨w.heap.size, 0, none⟩ = some (.string xp) := (by simp [World.cell?, K2.out]); have g1 : w2.cell? ⟨w.heap.size, 1, none⟩ = some (.slice ta tn tc) := (by simp [World.cell?, K2.out]); have g2 : w2.cell? ⟨w.heap.size, 2, none⟩ = some (.slice ra rn rc) := (by simp [World.cell?, K2.out]); have HO2 := hide hown2; have hsz2 := HB2.out.size; clear hown2 hgrow2 hnil2)
          | (refine wpList_append_own _ rfl (.tmp 27) (.tmp 29) 46 rfl W1.heap.size 76 i76 (.agg #[.string ⟨#[]⟩, .slice none 0 0, .slice none 0 0]) 3 64 Tryz.underlying46 hi hz0 hz1 hz2 rfl (by decide) (.slice a2 cap c2) cap (flatR (l.take cap)) rfl (HO2.out.alloc _) ⟨w2.heap.size, 0, none⟩ 1 1 [.string xp, .slice ta tn tc, .slice ra rn rc] rfl rfl (cell_three_at _ _ _ _ _ _ rfl) (fun y hy => by simp at hy; rcases hy with rfl | rfl | rfl <;> rfl) (by unfold maxLen; omega) (by omega) (by simp; omega) ?_; intro v3 w3 hown3 hgrow3 hnil3; obtain ⟨a3, c3, rfl, hc3⟩ := own_sl hown3; have HB3 := hide ((HB2.out.alloc hsz2 _).grown hgrow3 (by simp; omega) (fun k hk => (HO2.out.lt k hk).1)); have HO3 := hide hown3; have hsz3 := HB3.out.size; have HF3 : Hid (∀ k (hk : k < (l.drop cap).length), w3.cell? ⟨b, off + cap * 3 + k * 3, none⟩ = some (.string (l.drop cap)[k].path) ∧ w3.cell? ⟨b, off + cap * 3 + k * 3 + 1, none⟩ = some (l.drop cap)[k].tree ∧ w3.cell? ⟨b, off + cap * 3 + k * 3 + 2, none⟩ = some (l.drop cap)[k].refs) := dropC HC1.out hj (fun a ha => HB3.out.cell (by omega)); clear hown3 hgrow3 hnil3)
          | (refine wpList_append_own _ rfl (.tmp 31) (.tmp 34) 46 rfl W1.heap.size 76 i76 (.agg #[.string ⟨#[]⟩, .slice none 0 0, .slice none 0 0]) 3 64 Tryz.underlying46 hi hz0 hz1 hz2 rfl (by decide) (.slice a3 (cap + 1) c3) (cap + 1) (flatR (l.take cap) ++ [.string xp, .slice ta tn tc, .slice ra rn rc]) rfl HO3.out ⟨b, off, none⟩ 0 0 [] rfl rfl (fun k u hk => by simp at hk) (fun y hy => by cases hy) (by unfold maxLen; omega) (by omega) (by omega) ?_; intro v4 w4 hown4 hgrow4 hnil4; have HB4 := hide (HB3.out.grown hgrow4 hsz3 (fun k hk => (HO3.out.lt k hk).1)); have HO4 := hide hown4; clear hown4 hgrow4 hnil4))
        go_ret
        refine ⟨_, rfl, ?_, HB1.out.trans (HB4.out.mono hsz1)⟩
        have := own_base HO4.out (show w.heap.size ≤ W1.heap.size by omega)
        have hd : l.drop cap = [] := List.drop_eq_nil_of_le (by omega)
        rw [Nat.add_zero, List.append_nil, show cap + 1 = l.length + 1 by omega] at this
        rw [flatR_append, flatR_append, hd]
        simpa [flatR, REn.tree, REn.refs] using this
      · go_wp2
        go_quiet (fail)
        have HB1 : Hid (Below w.heap.size w (wr.drewN nq)) := by rw [HW.out, World.drewN_drewN]; exact below_drewN HB0.out _
        have K1 : Hid ((wr.drewN nq).heap[w.heap.size]? = some (.cells #[.string xp, .slice ta tn tc, .slice ra rn rc] 76 (0, 0))) := by rw [HW.out, World.drewN_drewN]; exact K0.out
        clear e0 e1 e2
        generalize wr.drewN nq = W1 at *
        have hsz1 := HB1.out.size
        have HC1 : Hid (∀ j (h : j < l.length), W1.cell? ⟨b, off + j * 3, none⟩ = some (.string l[j].path) ∧ W1.cell? ⟨b, off + j * 3 + 1, none⟩ = some l[j].tree ∧ W1.cell? ⟨b, off + j * 3 + 2, none⟩ = some l[j].refs) := fun j h => by
          obtain ⟨a0, a1, a2⟩ := HX.out j h
          exact ⟨(HB1.out.cell hbl).trans a0, (HB1.out.cell hbl).trans a1, (HB1.out.cell hbl).trans a2⟩
        have e0 : W1.cell? ⟨w.heap.size, 0, none⟩ = some (.string xp) := by simp [World.cell?, K1.out]
        have hblk : w.heap.size < W1.heap.size := lt_of_block K1.out
        have HF1 : Hid (∀ k (hk : k < (l.take N).length), W1.cell? ⟨b, off + k * 3, none⟩ = some (.string (l.take N)[k].path) ∧ W1.cell? ⟨b, off + k * 3 + 1, none⟩ = some (l.take N)[k].tree ∧ W1.cell? ⟨b, off + k * 3 + 2, none⟩ = some (l.take N)[k].refs) := fun k hk => by
          have hk2 : k < l.length := by rw [List.length_take] at hk; omega
          rw [List.getElem_take]; exact HC1.out k hk2
        go_wp2_with (at_builtin; first
          | (refine wpList_append_own _ rfl (.const (.slice none 0 0)) (.tmp 25) 46 rfl W1.heap.size 76 i76 (.agg #[.string ⟨#[]⟩, .slice none 0 0, .slice none 0 0]) 3 64 Tryz.underlying46 hi hz0 hz1 hz2 rfl (by decide) (.slice none 0 0) 0 [] rfl (World.ownsRow_nil _ _ _ _) ⟨b, off, none⟩ N cap (flatR (l.take N)) rfl (by rw [flatR_length, List.length_take]; omega) (cellsR HF1.out) (flatR_one _) (by unfold maxLen; omega) (by omega) (Nat.le_refl _) ?_; intro v2 w2 hown2 hgrow2 hnil2; rw [Nat.zero_add, List.nil_append] at hown2; obtain ⟨a2, c2, rfl, hc2⟩ := own_sl hown2; have HB2 := hide ((Below.refl W1.heap.size W1).grown hgrow2 (Nat.le_refl _) (fun k hk => by cases hk)); have K2 := hide ((HB2.out.block _ hblk).trans K1.out); have g0 : w2.cell? ⟨w.heap.size, 0, none⟩ = some (.string xp) := (by simp [World.cell?, K2.out]); have g1 : w2.cell? ⟨w.heap.size, 1, none⟩ = some (.slice ta tn tc) := (by simp [World.cell?, K2.out]); have g2 : w2.cell? ⟨w.heap.size, 2, none⟩ = some (.slice ra rn rc) := (by simp [World.cell?, K2.out]); have HO2 := hide hown2; have hsz2 := HB2.out.size; clear hown2 hgrow2 hnil2)
          | (refine wpList_append_own _ rfl (.tmp 27) (.tmp 29) 46 rfl W1.heap.size 76 i76 (.agg #[.string ⟨#[]⟩, .slice none 0 0, .slice none 0 0]) 3 64 Tryz.underlying46 hi hz0 hz1 hz2 rfl (by decide) (.slice a2 N c2) N (flatR (l.take N)) rfl (HO2.out.alloc _) ⟨w2.heap.size, 0, none⟩ 1 1 [.string xp, .slice ta tn tc, .slice ra rn rc] rfl rfl (cell_three_at _ _ _ _ _ _ rfl) (fun y hy => by simp at hy; rcases hy with rfl | rfl | rfl <;> rfl) (by unfold maxLen; omega) (by omega) (by simp; omega) ?_; intro v3 w3 hown3 hgrow3 hnil3; obtain ⟨a3, c3, rfl, hc3⟩ := own_sl hown3; have HB3 := hide ((HB2.out.alloc hsz2 _).grown hgrow3 (by simp; omega) (fun k hk => (HO2.out.lt k hk).1)); have HO3 := hide hown3; have hsz3 := HB3.out.size; have HF3 : Hid (∀ k (hk : k < (l.drop N).length), w3.cell? ⟨b, off + N * 3 + k * 3, none⟩ = some (.string (l.drop N)[k].path) ∧ w3.cell? ⟨b, off + N * 3 + k * 3 + 1, none⟩ = some (l.drop N)[k].tree ∧ w3.cell? ⟨b, off + N * 3 + k * 3 + 2, none⟩ = some (l.drop N)[k].refs) := dropC HC1.out hj (fun a ha => HB3.out.cell (by omega)); clear hown3 hgrow3 hnil3)
          | (refine wpList_append_own _ rfl (.tmp 31) (.tmp 34) 46 rfl W1.heap.size 76 i76 (.agg #[.string ⟨#[]⟩, .slice none 0 0, .slice none 0 0]) 3 64 Tryz.underlying46 hi hz0 hz1 hz2 rfl (by decide) (.slice a3 (N + 1) c3) (N + 1) (flatR (l.take N) ++ [.string xp, .slice ta tn tc, .slice ra rn rc]) rfl HO3.out ⟨b, off + N * 3, none⟩ (l.length - N) (cap - N) (flatR (l.drop N)) rfl (by rw [flatR_length, List.length_drop]) (cellsR HF3.out) (flatR_one _) (by unfold maxLen; omega) (by omega) (by omega) ?_; intro v4 w4 hown4 hgrow4 hnil4; have HB4 := hide (HB3.out.grown hgrow4 hsz3 (fun k hk => (HO3.out.lt k hk).1)); have HO4 := hide hown4; clear hown4 hgrow4 hnil4))
        go_ret
        refine ⟨_, rfl, ?_, HB1.out.trans (HB4.out.mono hsz1)⟩
        have := own_base HO4.out (show w.heap.size ≤ W1.heap.size by omega)
        rw [flatR_append, flatR_append, show N + 1 + (l.length - N) = l.length + 1 by omega] at *
        exact this

set_option maxRecDepth 20000 in
set_option maxHeartbeats 2000000 in
/-- Into a store that has none. -/
theorem rput_none (x : REn) (w : World) :
    Calls Tryz.prog 41 #[.slice none 0 0, .agg #[.string x.path, x.tree, x.refs]] w fun e w' => ∃ v, e = .returned v ∧ w'.ownsRow w.heap.size 76 3 v 1 (flatR [x]) ∧ Below w.heap.size w w' := by
  obtain ⟨i76, hi, hz0, hz1, hz2⟩ := info_parts Tryz.info76
  obtain ⟨xp, ta, tn, tc, ra, rn, rc⟩ := x
  unfold REn.tree REn.refs
  simp only
  have HB0 := hide ((Below.refl _ w).alloc (Nat.le_refl _) (.cells #[.string xp, .slice ta tn tc, .slice ra rn rc] 76))
  have K0 := hide (block_new w (.cells #[.string xp, .slice ta tn tc, .slice ra rn rc] 76))
  have hdec : decide ((0 : Int) < 0) = false := rfl
  go_enter Tryz.func41, Tryz.ntmps41
  go_wp2
  generalize w.alloc (.cells #[.string xp, .slice ta tn tc, .slice ra rn rc] 76) = W0 at *
  refine wp_loop_rounds 1 ?_
  rw [rounds_succ]
  go_wp2
  go_quiet (fail)
  have HB1 : Hid (Below w.heap.size w (W0.drewN nq)) := hide (below_drewN HB0.out _)
  have K1 : Hid ((W0.drewN nq).heap[w.heap.size]? = some (.cells #[.string xp, .slice ta tn tc, .slice ra rn rc] 76 (0, 0))) := K0.out
  generalize W0.drewN nq = W1 at *
  have hsz1 := HB1.out.size
  have hblk : w.heap.size < W1.heap.size := lt_of_block K1.out
  have g0 : W1.cell? ⟨w.heap.size, 0, none⟩ = some (.string xp) := by simp [World.cell?, K1.out]
  have g1 : W1.cell? ⟨w.heap.size, 1, none⟩ = some (.slice ta tn tc) := by simp [World.cell?, K1.out]
  have g2 : W1.cell? ⟨w.heap.size, 2, none⟩ = some (.slice ra rn rc) := by simp [World.cell?, K1.out]
  go_wp2_with (at_builtin; first
    | (refine wpList_append_own_none rfl (.const (.slice none 0 0)) (.tmp 25) 46 rfl W1.heap.size 76 i76 3 Tryz.underlying46 hi (.slice none 0 0) 0 [] rfl (World.ownsRow_nil _ _ _ _) rfl ?_)
    | (refine wpList_append_own _ rfl (.tmp 27) (.tmp 29) 46 rfl W1.heap.size 76 i76 (.agg #[.string ⟨#[]⟩, .slice none 0 0, .slice none 0 0]) 3 64 Tryz.underlying46 hi hz0 hz1 hz2 rfl (by decide) (.slice none 0 0) 0 [] rfl (World.ownsRow_nil _ _ _ _) ⟨W1.heap.size, 0, none⟩ 1 1 [.string xp, .slice ta tn tc, .slice ra rn rc] rfl rfl (cell_three_at _ _ _ _ _ _ rfl) (fun y hy => by simp at hy; rcases hy with rfl | rfl | rfl <;> rfl) (by unfold maxLen; omega) (by omega) (by simp) ?_; intro v3 w3 hown3 hgrow3 hnil3; obtain ⟨a3, c3, rfl, hc3⟩ := own_sl hown3; have HB3 := hide (((Below.refl _ W1).alloc (Nat.le_refl _) _).grown hgrow3 (by simp) (fun k hk => by cases hk)); have HO3 := hide hown3; clear hown3 hgrow3 hnil3)
    | (refine wpList_append_own_none rfl (.tmp 31) (.tmp 34) 46 rfl W1.heap.size 76 i76 3 Tryz.underlying46 hi _ _ _ rfl HO3.out rfl ?_))
  go_ret
  refine ⟨_, rfl, ?_, HB1.out.trans (HB3.out.mono hsz1)⟩
  have := own_base HO3.out (show w.heap.size ≤ W1.heap.size by omega)
  simpa [flatR, REn.tree, REn.refs] using this
end Go.Proofs.YticfcjmlphhpgaaGreatDoor
/-
  THE DOCUMENT's STORES, 4: a store in memory; Insert.
-/
namespace Go.Proofs.YticfcjmlphhpgaaGreatDoor
open Go.RowKit

def REAt (w : World) (x : REn) (e : Ent) : Prop := x.path = e.path ∧ SliceN w x.tree e.nodes ∧ SliceS w x.refs e.refs
def REsAt (w : World) : List REn → List Ent → Prop
  | [], [] => True
  | x :: l, e :: S => REAt w x e ∧ REsAt w l S
  | _, _ => False
theorem REsAt.length {w : World} : ∀ {l : List REn} {S : List Ent}, REsAt w l S → l.length = S.length
  | [], [], _ => rfl
  | _ :: _, _ :: _, h => by rw [List.length_cons, List.length_cons, h.2.length]
  | [], _ :: _, h => h.elim
  | _ :: _, [], h => h.elim
theorem REsAt.mono {w w' : World} (h1 : ∀ v ns, SliceN w v ns → SliceN w' v ns) (h2 : ∀ v ss, SliceS w v ss → SliceS w' v ss) : ∀ {l : List REn} {S : List Ent}, REsAt w l S → REsAt w' l S
  | [], [], _ => trivial
  | _ :: _, _ :: _, h => ⟨⟨h.1.1, h1 _ _ h.1.2.1, h2 _ _ h.1.2.2⟩, h.2.mono h1 h2⟩
  | [], _ :: _, h => h.elim
  | _ :: _, [], h => h.elim
theorem REsAt.get {w : World} : ∀ {l : List REn} {S : List Ent}, REsAt w l S → ∀ k (h1 : k < l.length) (h2 : k < S.length), REAt w l[k] S[k]
  | _ :: _, _ :: _, h, 0, _, _ => h.1
  | _ :: _, _ :: _, h, k + 1, h1, h2 => h.2.get k (by simpa using h1) (by simpa using h2)
  | [], [], _, _, h1, _ => by simp at h1
  | [], _ :: _, h, _, _, _ => h.elim
  | _ :: _, [], h, _, _, _ => h.elim
theorem ba_beq (a b : ByteArray) : (a.data.toList == b.data.toList) = decide (a = b) := by
  by_cases h : a = b
  · subst h; simp
  · rw [decide_eq_false h]
    exact beq_eq_false_iff_ne.2 (fun e => h (WideShapes.bytes_inj e))
/-- Where it stands, told by the store itself. -/
theorem REsAt.find {w : World} : ∀ {l : List REn} {S : List Ent}, REsAt w l S → ∀ p : ByteArray, (findS S p = none ∧ atI l p = -1) ∨ ∃ (k : Nat) (_h1 : k < l.length) (h2 : k < S.length), atI l p = k ∧ findS S p = some S[k]
  | [], [], _, p => .inl ⟨rfl, atI_no (fun k hk => by simp at hk)⟩
  | x :: l, e :: S, h, p => by
    have hp : x.path = e.path := h.1.1
    by_cases he : e.path = p
    · refine .inr ⟨0, by simp, by simp, ?_, ?_⟩
      · exact atI_yes 0 (by simp) (by simpa [hp] using he) (fun k _ hk => by omega)
      · unfold findS; rw [List.find?_cons, ba_beq, decide_eq_true he]; rfl
    · have hf : findS (e :: S) p = findS S p := by unfold findS; rw [List.find?_cons, ba_beq, decide_eq_false he]
      have ha : atN (x :: l) p = atN l p + 1 := by unfold atN; rw [List.findIdx_cons, hp, decide_eq_false he]; rfl
      rcases h.2.find p with ⟨h1, h2⟩ | ⟨k, h1, h2, h3, h4⟩
      · refine .inl ⟨by rw [hf, h1], ?_⟩
        unfold atI at h2 ⊢
        rw [ha, List.length_cons]
        by_cases hlt : atN l p < l.length
        · rw [if_pos hlt] at h2; omega
        · rw [if_neg (by omega)]
      · refine .inr ⟨k + 1, by simpa using h1, by simpa using h2, ?_, by rw [hf, h4]; simp⟩
        unfold atI at h3 ⊢
        rw [ha, List.length_cons]
        by_cases hlt : atN l p < l.length
        · rw [if_pos hlt] at h3; rw [if_pos (by omega)]; omega
        · rw [if_neg hlt] at h3; omega
  | [], _ :: _, h, _ => h.elim
  | _ :: _, [], h, _ => h.elim
/-- A store of the document's. -/
structure RSt (w : World) (b : Nat) (S : List Ent) : Prop where
  at_ : ∃ v l, w.heap[b]? = some (.cells #[v] 48 (0, 0)) ∧ SliceE w v l ∧ REsAt w l S ∧ (S = [] → v = .slice none 0 0)
theorem RSt.below {w w' : World} {b : Nat} {S : List Ent} (h : RSt w b S) (hb : Below w.heap.size w w') : RSt w' b S := by
  obtain ⟨v, l, h1, h2, h3, h4⟩ := h.at_
  exact ⟨v, l, (hb.block b (lt_of_block h1)).trans h1, h2.below hb, h3.mono (fun v ns h => h.below hb) (fun v ss h => h.below hb), h4⟩
theorem RSt.lt {w : World} {b : Nat} {S : List Ent} (h : RSt w b S) : b < w.heap.size := by
  obtain ⟨v, l, h1, _⟩ := h.at_
  exact lt_of_block h1
/-- What the store must be good for. -/
structure GoodS (S : List Ent) : Prop where
  tree : ∀ e ∈ S, IsTree e.nodes
  refs : ∀ e ∈ S, e.refs.length ≤ 1000000
  few : S.length ≤ 10
end Go.Proofs.YticfcjmlphhpgaaGreatDoor
/-
  THE DOCUMENT's STORES, 6: Paths.
-/
namespace Go.Proofs.YticfcjmlphhpgaaGreatDoor
open Go.RowKit

theorem REsAt.paths {w : World} : ∀ {l : List REn} {S : List Ent}, REsAt w l S → l.map (·.path) = S.map (·.path)
  | [], [], _ => rfl
  | _ :: _, _ :: _, h => by rw [List.map_cons, List.map_cons, h.1.1, h.2.paths]
  | [], _ :: _, h => h.elim
  | _ :: _, [], h => h.elim
theorem paths_take (l : List REn) (j : Nat) (h : j < l.length) : ((l.take (j + 1)).map (·.path)).map Value.string = ((l.take j).map (·.path)).map Value.string ++ [.string l[j].path] := by
  rw [List.take_succ_eq_append_getElem h, List.map_append, List.map_append]; rfl

set_option maxRecDepth 20000 in
set_option maxHeartbeats 1000000 in
theorem rPaths_any (b : Nat) (S : List Ent) (w : World) (h : RSt w b S) (hS : S.length ≤ 1000) :
    Calls Tryz.prog 26 #[.pointer (some ⟨b, 0, none⟩)] w fun e w' => ∃ v, e = .returned v ∧ w'.ownsRow w.heap.size 9 1 v S.length ((S.map (·.path)).map Value.string) ∧ Below w.heap.size w w' := by
  obtain ⟨i9, hi9, h90, h91, h92⟩ := info_parts Tryz.info9
  obtain ⟨v, l, h1, h2, h3, h4⟩ := h.at_
  have hlen := h3.length
  have hps := h3.paths
  obtain ⟨a, cap, hv, hcap, hc⟩ := h2
  subst hv
  have c0 : w.cell? ⟨b, 0, none⟩ = some (.slice a l.length cap) := by simp [World.cell?, h1]
  rw [← hlen, ← hps]
  by_cases h0 : l.length = 0
  · have e0 : l = [] := List.eq_nil_of_length_eq_zero h0
    subst e0
    simp only [List.length_nil] at c0 ⊢
    clear h h3 hc h1 h4
    go_enter Tryz.func26, Tryz.ntmps26
    go_wp2
    refine wp_loop_rounds 1 ?_
    rw [rounds_succ]
    go_wp2
    go_ret
    exact ⟨_, rfl, World.ownsRow_nil _ _ _ _, Below.refl _ _⟩
  · obtain ⟨g, off, rfl, hgl, hX⟩ := hc (by omega)
    have HX := hide hX
    clear hX hc h h3 h1 h4 hps
    go_enter Tryz.func26, Tryz.ntmps26
    go_wp2
    go_loopw [3, 5, 11] (fun o _ i w1 => ∃ (j : Nat) (a1 : Option Addr) (cap1 : Nat), j ≤ l.length ∧ i = .int .i64 j ∧ o = .slice a1 j cap1 ∧ Hid (Below w.heap.size w w1) ∧ Hid (w1.ownsRow w.heap.size 9 1 (.slice a1 j cap1) j (((l.take j).map (·.path)).map Value.string))) (fun _ _ i _ => l.length - (intOf i).toNat)
    case atStart => exact ⟨0, none, 0, by omega, rfl, rfl, hide (Below.refl _ _), hide (World.ownsRow_nil _ _ _ _)⟩
    case round =>
      obtain ⟨j, a1, cap1, hj, rfl, rfl, HB, HO⟩ := hrel
      have hsz := HB.out.size
      by_cases hlt : j < l.length
      · obtain ⟨c1, c2, c3⟩ := HX.out j hlt
        rw [← HB.out.cell (p := ⟨g, off + j * 3, none⟩) hgl] at c1
        rw [← HB.out.cell (p := ⟨g, off + j * 3 + 1, none⟩) hgl] at c2
        rw [← HB.out.cell (p := ⟨g, off + j * 3 + 2, none⟩) hgl] at c3
        have hltz : (j : Int) < l.length := by omega
        unfold REn.tree at c2
        unfold REn.refs at c3
        have HM := hide (paths_take l j hlt)
        generalize l[j] = x at c1 c2 c3 HM
        obtain ⟨xp, ta, tn, tc, ra, rn, rc⟩ := x
        simp only at c1 c2 c3 HM
        clear c0
        go_wp2_with (at_builtin; refine wpList_append_own _ rfl (.tmp 15) (.tmp 18) 26 rfl w.heap.size 9 i9 (.string ⟨#[]⟩) 1 16 Tryz.underlying26 hi9 h90 h91 h92 rfl (by decide) _ _ _ rfl ((HO.out.alloc _).alloc _) ⟨wr.heap.size + 1, 0, none⟩ 1 1 [.string xp] rfl rfl (cell_one_at _ _ _ _ (by simp)) (fun x hx => by simp at hx; subst hx; rfl) (by unfold maxLen; omega) (by omega) (by simp; omega) ?_; intro v3 w3 hown3 hgrow3 hnil3; have HB3 := hide (((HB.out.alloc hsz _).alloc (by simp; omega) _).grown hgrow3 (by simp; omega) (fun k hk => (HO.out.lt k hk).1)); obtain ⟨g3, cap3, rfl, hcap3⟩ := own_form hown3 (by omega); have HO3 := hide hown3; clear hown3 hgrow3 hnil3)
        go_roundw
        case rel => exact ⟨j + 1, some ⟨g3, 0, none⟩, cap3, by omega, by go_num, rfl, HB3, hide (by rw [HM.out]; exact HO3.out)⟩
        case measure => simp [intOf]; omega
      · obtain rfl : j = l.length := by omega
        have hO := HO.out
        rw [List.take_length] at hO
        have HO' := hide hO
        clear HO hO c0
        go_wp2
        go_ret
        exact ⟨_, rfl, HO'.out, HB.out⟩
end Go.Proofs.YticfcjmlphhpgaaGreatDoor
