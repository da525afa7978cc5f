/-
  WALKS of the reader, 12: the word behind dir, and behind each entry.
-/
import Derived.Test.YtpbjdfobbnpjfaaDoorC10
import Derived.RegionTactic
namespace Go.Proofs.YtpbjdfobbnpjfaaDoor
open Go.RowKit

theorem entry_list : wEntry.toList = [101, 110, 116, 114, 121] := by rw [ByteArray.toList_eq]; rfl
theorem close_list : wClose.toList = [41] := by rw [ByteArray.toList_eq]; rfl
theorem two_cells {w : World} {b : Nat} {x y : Value} {t : TypeId} (h : w.heap[b]? = some (.cells #[x, y] t (0, 0))) : w.cell? ⟨b, 0, none⟩ = some x ∧ w.cell? ⟨b, 1, none⟩ = some y := by simp [World.cell?, h]
/-- A directory is left. -/
theorem RM.popDir {B R : Nat} {w : World} {left lst nds : Value} {gD n cap : Nat} {pos : Nat} {list : List It} {g : Gr} (h : RM B R w left lst nds (.slice (some ⟨gD, 0, none⟩) n cap) pos list g) (k : Nat) (hk : g.dirs.length = k + 1) :
    RM B R (w.setCell ⟨R, 6, none⟩ (.slice (some ⟨gD, 0, none⟩) k cap)) left lst nds (.slice (some ⟨gD, 0, none⟩) k cap) pos list ⟨g.nodes, g.dirs.take (g.dirs.length - 1), g.path⟩ ∧ Below B w (w.setCell ⟨R, 6, none⟩ (.slice (some ⟨gD, 0, none⟩) k cap)) ∧ KT TS w (w.setCell ⟨R, 6, none⟩ (.slice (some ⟨gD, 0, none⟩) k cap)) := by
  obtain rfl : n = g.dirs.length := by
    obtain ⟨a, c, hv, _⟩ := own_slice h.dr
    injection hv
  obtain ⟨ivs, h1, h2⟩ := h.its
  have hk2 : KT TS w (w.setCell ⟨R, 6, none⟩ (.slice (some ⟨gD, 0, none⟩) k cap)) := (KT.refl TS w).set h.blk (by decide) _ _
  have o1 := own_take h.dr (m := k) (by omega)
  rw [flat2_take] at o1
  have hl : (g.dirs.take (g.dirs.length - 1)).length = k := by rw [List.length_take]; omega
  refine ⟨⟨block_set h.blk 6 _, h.BR, ⟨ivs, h1.kept hk2 (by decide), ownsRow_setCell_other h2 (h.rows h2 (by decide)) _⟩, ownsRow_setCell_other h.nd (h.rows h.nd (by decide)) _, ?_⟩, (Below.refl B w).setCell h.BR _, hk2⟩
  refine ownsRow_setCell_other ?_ (h.rows h.dr (by decide)) _
  rw [hl, show g.dirs.length - 1 = k by omega]
  exact o1

set_option maxRecDepth 20000 in
set_option maxHeartbeats 4000000 in
theorem takeInDir_close {B R : Nat} {w : World} {left lst nds drs : Value} {pos : Nat} {list : List It} {g : Gr} (h : RM B R w left lst nds drs pos list g) (hbd : Bd list g) (hne : g.dirs ≠ []) (s : ByteArray) (h1 : s ≠ wEntry) :
    Calls Tryd.prog 56 #[.pointer (some ⟨R, 0, none⟩), .string s] w (TakePost B R w left pos list (takeF g .inDir s)) := by
  obtain ⟨k, hk⟩ : ∃ k, g.dirs.length = k + 1 := ⟨g.dirs.length - 1, by have := List.length_pos_iff.2 hne; omega⟩
  have hkd := hbd.ld
  obtain ⟨gD, capD, rfl, hcD⟩ := own_form h.dr (by omega)
  have hBw : B ≤ w.heap.size := by have := h.lt; have := h.BR; omega
  obtain ⟨T, hT⟩ : ∃ T, takeF g .inDir s = T := ⟨_, rfl⟩
  rw [hT]
  rw [take_inDir, if_neg h1] at hT
  have hb1 : (s.toList == [101, 110, 116, 114, 121]) = false := by rw [← entry_list]; exact eqB_false h1
  clear h1
  by_cases h2 : s = wClose
  · rw [if_pos h2] at hT
    subst hT
    have hb2 : (s.toList == [41]) = true := by rw [h2, close_list]; rfl
    clear h2
    obtain ⟨a1, a2, a3⟩ := (h.new (drewB w)).popDir k hk
    have c6 : w.cell? ⟨R, 6, none⟩ = some (.slice (some ⟨gD, 0, none⟩) (k + 1) capD) := by simp [World.cell?, h.blk, hk]
    have f6 : w.frozen? ⟨R, 6, none⟩ = false := by simp [World.frozen?, h.blk]
    have HE : Hid (TakePost B R w left pos list (.more ⟨g.nodes, g.dirs.take (g.dirs.length - 1), g.path⟩ []) (.returned (.int .i64 0)) (w.drew.setCell ⟨R, 6, none⟩ (.slice (some ⟨gD, 0, none⟩) k capD))) := ⟨rfl, _, _, _, a1, ((drewB w).mono hBw).trans a2, (KT.new TS (drewB w)).trans a3⟩
    rw [hk] at hcD
    have hkc : k ≤ capD := by omega
    clear a1 a2 a3 h hne
    go_enter Tryd.func56, Tryd.ntmps56
    go_wp2
    go_region
    all_goals
      go_wp2
      go_ret
      exact HE.out
  · rw [if_neg h2] at hT
    subst hT
    have hb2 : (s.toList == [41]) = false := by rw [← close_list]; exact eqB_false h2
    clear h2
    go_enter Tryd.func56, Tryd.ntmps56
    go_wp2
    go_ret
    exact ⟨rfl, Below.refl _ _⟩

set_option maxRecDepth 20000 in
theorem entry_must {B R : Nat} {w : World} {left lst nds drs : Value} {pos : Nat} {list : List It} {g : Gr} (h : RM B R w left lst nds drs pos list g) (b1 b2 b3 b4 : Nat) (h1 : IsIt w R (.word wOpen) ⟨8, .func 45, #[], #[.pointer (some ⟨b1, 0, none⟩)]⟩) (h2 : IsIt w R (.word wName) ⟨8, .func 45, #[], #[.pointer (some ⟨b2, 0, none⟩)]⟩) (h3 : IsIt w R (.word wNode) ⟨8, .func 45, #[], #[.pointer (some ⟨b3, 0, none⟩)]⟩) (h4 : IsIt w R (.word wClose) ⟨8, .func 45, #[], #[.pointer (some ⟨b4, 0, none⟩)]⟩) (hl : list.length ≤ 100000000) :
    Calls Tryd.prog 30 #[.pointer (some ⟨R, 0, none⟩), .slice (some ⟨w.heap.size, 0, none⟩) 7 7] (w.alloc (.cells #[.int .i64 8, .func (.func 45) #[] #[.pointer (some ⟨b1, 0, none⟩)], .int .i64 8, .func (.func 45) #[] #[.pointer (some ⟨b2, 0, none⟩)], .int .i64 48, .func (.func 63) #[.pointer (some ⟨R, 0, none⟩)] #[], .int .i64 8, .func (.func 45) #[] #[.pointer (some ⟨b3, 0, none⟩)], .int .i64 8, .func (.func 33) #[.pointer (some ⟨R, 0, none⟩)] #[], .int .i64 8, .func (.func 45) #[] #[.pointer (some ⟨b4, 0, none⟩)], .int .i64 8, .func (.func 56) #[.pointer (some ⟨R, 0, none⟩)] #[]] 75)) fun e w' => (∃ r, e = .returned r) ∧ ∃ lst', RM B R w' left lst' nds drs pos ([.word wOpen, .word wName, .name, .word wNode, .bracket, .word wClose, .inDir] ++ list) g ∧ Below B (w.alloc (.cells #[.int .i64 8, .func (.func 45) #[] #[.pointer (some ⟨b1, 0, none⟩)], .int .i64 8, .func (.func 45) #[] #[.pointer (some ⟨b2, 0, none⟩)], .int .i64 48, .func (.func 63) #[.pointer (some ⟨R, 0, none⟩)] #[], .int .i64 8, .func (.func 45) #[] #[.pointer (some ⟨b3, 0, none⟩)], .int .i64 8, .func (.func 33) #[.pointer (some ⟨R, 0, none⟩)] #[], .int .i64 8, .func (.func 45) #[] #[.pointer (some ⟨b4, 0, none⟩)], .int .i64 8, .func (.func 56) #[.pointer (some ⟨R, 0, none⟩)] #[]] 75)) w' ∧ KT TS (w.alloc (.cells #[.int .i64 8, .func (.func 45) #[] #[.pointer (some ⟨b1, 0, none⟩)], .int .i64 8, .func (.func 45) #[] #[.pointer (some ⟨b2, 0, none⟩)], .int .i64 48, .func (.func 63) #[.pointer (some ⟨R, 0, none⟩)] #[], .int .i64 8, .func (.func 45) #[] #[.pointer (some ⟨b3, 0, none⟩)], .int .i64 8, .func (.func 33) #[.pointer (some ⟨R, 0, none⟩)] #[], .int .i64 8, .func (.func 45) #[] #[.pointer (some ⟨b4, 0, none⟩)], .int .i64 8, .func (.func 56) #[.pointer (some ⟨R, 0, none⟩)] #[]] 75)) w' :=
  Must_rm (h.new ((Below.refl _ w).alloc (Nat.le_refl _) _)) w.heap.size [.word wOpen, .word wName, .name, .word wNode, .bracket, .word wClose, .inDir] [⟨8, .func 45, #[], #[.pointer (some ⟨b1, 0, none⟩)]⟩, ⟨8, .func 45, #[], #[.pointer (some ⟨b2, 0, none⟩)]⟩, ⟨48, .func 63, #[.pointer (some ⟨R, 0, none⟩)], #[]⟩, ⟨8, .func 45, #[], #[.pointer (some ⟨b3, 0, none⟩)]⟩, ⟨8, .func 33, #[.pointer (some ⟨R, 0, none⟩)], #[]⟩, ⟨8, .func 45, #[], #[.pointer (some ⟨b4, 0, none⟩)]⟩, ⟨8, .func 56, #[.pointer (some ⟨R, 0, none⟩)], #[]⟩] ⟨h1.kept (KT.new [] ((Below.refl _ w).alloc (Nat.le_refl _) _)) (by simp), h2.kept (KT.new [] ((Below.refl _ w).alloc (Nat.le_refl _) _)) (by simp), rfl, h3.kept (KT.new [] ((Below.refl _ w).alloc (Nat.le_refl _) _)) (by simp), rfl, h4.kept (KT.new [] ((Below.refl _ w).alloc (Nat.le_refl _) _)) (by simp), rfl, trivial⟩ (block_new w _) h.lstNew hl (by simp)

set_option maxRecDepth 20000 in
set_option maxHeartbeats 40000000 in
theorem takeInDir_entry {B R : Nat} {w : World} {left lst nds drs : Value} {pos : Nat} {list : List It} {g : Gr} (h : RM B R w left lst nds drs pos list g) (hbd : Bd list g) :
    Calls Tryd.prog 56 #[.pointer (some ⟨R, 0, none⟩), .string wEntry] w (TakePost B R w left pos list (takeF g .inDir wEntry)) := by
  have hmf : ∀ (fn : Fn) (first cap : Array Value) (w : World), (Instr.makeFunc fn first cap).run Tryd.prog w = .ok (.func fn first cap) w := fun _ _ _ _ => rfl
  have hBw : B ≤ w.heap.size := by have := h.lt; have := h.BR; omega
  rw [take_inDir, if_pos rfl]
  obtain ⟨s, hs⟩ : ∃ s, wEntry = s := ⟨_, rfl⟩
  rw [hs]
  have hb1 : (s.toList == [101, 110, 116, 114, 121]) = true := by rw [← hs, entry_list]; rfl
  clear hs
  have H1 := hide (h.new ((Below.refl _ w).alloc (Nat.le_refl _) (.cells #[.int .i64 48, .func (.func 63) #[.pointer (some ⟨R, 0, none⟩)] #[]] 75)))
  clear h
  go_enter Tryd.func56, Tryd.ntmps56
  go_wp2_with fail
  refine (Words_any (.func 33) _ _ _).mono ?_
  rintro e w1 ⟨rfl, hb1'⟩
  have hX5 : w1.heap[w.heap.size]? = some (.cells #[.int .i64 48, .func (.func 63) #[.pointer (some ⟨R, 0, none⟩)] #[]] 75 (0, 0)) := (hb1'.block _ (by simp)).trans (block_new w _)
  have H2 := hide (H1.out.new hb1')
  have hB2 : Below B w w1 := below_ext ((Below.refl B w).alloc hBw _) hBw hb1'
  have hK2 : KT TS w w1 := ((KT.refl TS w).alloc _).trans (KT.new TS hb1')
  clear H1
  have hX6 : (w1.alloc (.cells #[.int .i64 8, .func (.func 33) #[.pointer (some ⟨R, 0, none⟩)] #[]] 75)).heap[w1.heap.size]? = some (.cells #[.int .i64 8, .func (.func 33) #[.pointer (some ⟨R, 0, none⟩)] #[]] 75 (0, 0)) := block_new w1 _
  have hX5 := block_keep (.cells #[.int .i64 8, .func (.func 33) #[.pointer (some ⟨R, 0, none⟩)] #[]] 75) hX5
  have hM0' := H2.out.new ((Below.refl _ w1).alloc (Nat.le_refl _) (.cells #[.int .i64 8, .func (.func 33) #[.pointer (some ⟨R, 0, none⟩)] #[]] 75))
  have hB0 : Below B w (w1.alloc (.cells #[.int .i64 8, .func (.func 33) #[.pointer (some ⟨R, 0, none⟩)] #[]] 75)) := hB2.alloc (Nat.le_trans hBw hB2.size) _
  have hK0 := hK2.alloc (.cells #[.int .i64 8, .func (.func 33) #[.pointer (some ⟨R, 0, none⟩)] #[]] 75)
  clear H2 hB2 hK2 hb1'
  generalize hW : w1.alloc (.cells #[.int .i64 8, .func (.func 33) #[.pointer (some ⟨R, 0, none⟩)] #[]] 75) = W7 at hX5 hX6 hM0' hB0 hK0
  have hM0 := hide (hM0'.new (drewB W7))
  clear hM0'
  obtain ⟨x50, x51⟩ := two_cells hX5
  obtain ⟨x60, x61⟩ := two_cells hX6
  go_wp2
  clear hW
  refine wp_region_any (by kernel_rfl) ?_
  change wpAny _ _ _ _ _ _ _ (World.drew _)
  have hBx0 := hide (below_ext hB0 hBw (drewB W7))
  have hKx0 := hide (hK0.trans (KT.new TS (drewB W7)))
  clear hB0 hK0
  have hX5 := ((drewB W7).block _ (lt_of_block hX5)).trans hX5
  have hX6 := ((drewB W7).block _ (lt_of_block hX6)).trans hX6
  refine wpAny_take (i := 0) (v := ?_) rfl (by kernel_rfl) (by kernel_rfl) (by kernel_rfl) (fun _ _ _ h => h) (Or.inl ⟨by rfl, ?_⟩) ?_
  rotate_left
  focus (intro w; go_simp; try with_reducible rfl)
  refine wpAny_take (i := 1) (v := ?_) rfl (by kernel_rfl) (by kernel_rfl) (by kernel_rfl) (fun _ _ _ h => h) (Or.inl ⟨by rfl, ?_⟩) ?_
  rotate_left
  focus (intro w; go_simp; try with_reducible rfl)
  refine wpAny_take (i := 2) (v := ?_) rfl (by kernel_rfl) (by kernel_rfl) (by kernel_rfl) (fun _ _ _ h => h) (Or.inl ⟨by rfl, ?_⟩) ?_
  rotate_left
  focus (intro w; go_simp; try with_reducible rfl)
  refine wpAny_take (i := 9) (v := ?_) rfl (by kernel_rfl) (by kernel_rfl) (by kernel_rfl) (fun _ _ _ h => h) (Or.inl ⟨by rfl, ?_⟩) ?_
  rotate_left
  focus (intro w; go_simp; try with_reducible rfl)
  refine wpAny_take (i := 10) (v := ?_) rfl (by kernel_rfl) (by kernel_rfl) (by kernel_rfl) (fun _ _ _ h => h) (Or.inl ⟨by rfl, ?_⟩) ?_
  rotate_left
  focus (intro w; go_simp; try with_reducible rfl)
  refine wpAny_ready (rs := [3, 5, 7]) (by kernel_rfl) (by simp) ?_
  refine AllReady.cons (by simp only [List.getElem?_toArray, List.getElem?_cons_succ, List.getElem?_cons_zero]; rfl) (fun K hK => ?_) ?_
  · go_simp
    refine (Word_any wOpen _).mono ?_
    rintro e u1 ⟨bx1, rfl, hx1, hu1⟩
    have hM1 := hide (hM0.out.new hu1)
    have hI1 : Hid (IsIt u1 R (.word wOpen) ⟨8, .func 45, #[], #[.pointer (some ⟨bx1, 0, none⟩)]⟩) := ⟨bx1, rfl, hx1⟩
    have hBx1 := hide (below_ext hBx0.out hBw hu1)
    have hKx1 := hide (hKx0.out.trans (KT.new TS hu1))
    have hX5 := (hu1.block _ (lt_of_block hX5)).trans hX5
    have hX6 := (hu1.block _ (lt_of_block hX6)).trans hX6
    clear x50 x51 x60 x61
    obtain ⟨x50, x51⟩ := two_cells hX5
    obtain ⟨x60, x61⟩ := two_cells hX6
    refine hK _ _ ?_
    clear hK K
    refine wpAny_ready (rs := [4, 5, 7]) (by kernel_rfl) (by simp) ?_
    refine AllReady.cons (by simp only [List.getElem?_toArray, List.getElem?_cons_succ, List.getElem?_cons_zero]; rfl) (fun K hK => ?_) ?_
    · go_simp
      refine (Word_any wName _).mono ?_
      rintro e u2 ⟨bx2, rfl, hx2, hu2⟩
      have hM2 := hide (hM1.out.new hu2)
      have hI1 := hide (hI1.out.kept (KT.new [] hu2) (by simp))
      have hI2 : Hid (IsIt u2 R (.word wName) ⟨8, .func 45, #[], #[.pointer (some ⟨bx2, 0, none⟩)]⟩) := ⟨bx2, rfl, hx2⟩
      have hBx2 := hide (below_ext hBx1.out hBw hu2)
      have hKx2 := hide (hKx1.out.trans (KT.new TS hu2))
      have hX5 := (hu2.block _ (lt_of_block hX5)).trans hX5
      have hX6 := (hu2.block _ (lt_of_block hX6)).trans hX6
      clear x50 x51 x60 x61
      obtain ⟨x50, x51⟩ := two_cells hX5
      obtain ⟨x60, x61⟩ := two_cells hX6
      refine hK _ _ ?_
      clear hK K
      refine wpAny_ready (rs := [5, 6, 7]) (by kernel_rfl) (by simp) ?_
      refine AllReady.cons (by simp only [List.getElem?_toArray, List.getElem?_cons_succ, List.getElem?_cons_zero]; rfl) (fun K hK => ?_) ?_
      · go_simp
        refine hK _ _ ?_
        clear hK K
        refine wpAny_ready (rs := [6, 7]) (by kernel_rfl) (by simp) ?_
        refine AllReady.cons (by simp only [List.getElem?_toArray, List.getElem?_cons_succ, List.getElem?_cons_zero]; rfl) (fun K hK => ?_) ?_
        · go_simp
          refine (Word_any wNode _).mono ?_
          rintro e u3 ⟨bx3, rfl, hx3, hu3⟩
          have hM3 := hide (hM2.out.new hu3)
          have hI1 := hide (hI1.out.kept (KT.new [] hu3) (by simp))
          have hI2 := hide (hI2.out.kept (KT.new [] hu3) (by simp))
          have hI3 : Hid (IsIt u3 R (.word wNode) ⟨8, .func 45, #[], #[.pointer (some ⟨bx3, 0, none⟩)]⟩) := ⟨bx3, rfl, hx3⟩
          have hBx3 := hide (below_ext hBx2.out hBw hu3)
          have hKx3 := hide (hKx2.out.trans (KT.new TS hu3))
          have hX5 := (hu3.block _ (lt_of_block hX5)).trans hX5
          have hX6 := (hu3.block _ (lt_of_block hX6)).trans hX6
          clear x50 x51 x60 x61
          obtain ⟨x50, x51⟩ := two_cells hX5
          obtain ⟨x60, x61⟩ := two_cells hX6
          refine hK _ _ ?_
          clear hK K
          refine wpAny_ready (rs := [7, 8]) (by kernel_rfl) (by simp) ?_
          refine AllReady.cons (by simp only [List.getElem?_toArray, List.getElem?_cons_succ, List.getElem?_cons_zero]; rfl) (fun K hK => ?_) ?_
          · go_simp
            refine hK _ _ ?_
            clear hK K
            refine wpAny_ready (rs := [8]) (by kernel_rfl) (by simp) ?_
            refine AllReady.cons (by simp only [List.getElem?_toArray, List.getElem?_cons_succ, List.getElem?_cons_zero]; rfl) (fun K hK => ?_) AllReady.nil
            · go_simp
              refine (Word_any wClose _).mono ?_
              rintro e u4 ⟨bx4, rfl, hx4, hu4⟩
              have hM4 := hide (hM3.out.new hu4)
              have hI1 := hide (hI1.out.kept (KT.new [] hu4) (by simp))
              have hI2 := hide (hI2.out.kept (KT.new [] hu4) (by simp))
              have hI3 := hide (hI3.out.kept (KT.new [] hu4) (by simp))
              have hI4 : Hid (IsIt u4 R (.word wClose) ⟨8, .func 45, #[], #[.pointer (some ⟨bx4, 0, none⟩)]⟩) := ⟨bx4, rfl, hx4⟩
              have hBx4 := hide (below_ext hBx3.out hBw hu4)
              have hKx4 := hide (hKx3.out.trans (KT.new TS hu4))
              have hX5 := (hu4.block _ (lt_of_block hX5)).trans hX5
              have hX6 := (hu4.block _ (lt_of_block hX6)).trans hX6
              clear x50 x51 x60 x61
              obtain ⟨x50, x51⟩ := two_cells hX5
              obtain ⟨x60, x61⟩ := two_cells hX6
              refine hK _ _ ?_
              clear hK K
              refine wpAny_ready (rs := [11]) (by kernel_rfl) (by simp) ?_
              refine AllReady.cons (by simp only [List.getElem?_toArray, List.getElem?_cons_succ, List.getElem?_cons_zero]; rfl) (fun K hK => ?_) AllReady.nil
              · go_simp
                refine (Words_any (.func 56) _ _ _).mono ?_
                rintro e u5 ⟨rfl, hu5⟩
                have hM5 := hide (hM4.out.new hu5)
                have hI1 := hide (hI1.out.kept (KT.new [] hu5) (by simp))
                have hI2 := hide (hI2.out.kept (KT.new [] hu5) (by simp))
                have hI3 := hide (hI3.out.kept (KT.new [] hu5) (by simp))
                have hI4 := hide (hI4.out.kept (KT.new [] hu5) (by simp))
                have hI5 : Hid (IsIt u5 R (.inDir) ⟨8, .func 56, #[.pointer (some ⟨R, 0, none⟩)], #[]⟩) := rfl
                have hBx5 := hide (below_ext hBx4.out hBw hu5)
                have hKx5 := hide (hKx4.out.trans (KT.new TS hu5))
                have hX5 := (hu5.block _ (lt_of_block hX5)).trans hX5
                have hX6 := (hu5.block _ (lt_of_block hX6)).trans hX6
                clear x50 x51 x60 x61
                obtain ⟨x50, x51⟩ := two_cells hX5
                obtain ⟨x60, x61⟩ := two_cells hX6
                refine hK _ _ ?_
                clear hK K
                refine wpAny_ready (rs := [12]) (by kernel_rfl) (by simp) (AllReady.cons (by simp only [List.getElem?_toArray, List.getElem?_cons_succ, List.getElem?_cons_zero]; rfl) (fun K hK => ?_) AllReady.nil)
                go_simp
                refine hK _ _ ?_
                clear hK K
                refine wpAny_ready (rs := [13]) (by kernel_rfl) (by simp) (AllReady.cons (by simp only [List.getElem?_toArray, List.getElem?_cons_succ, List.getElem?_cons_zero]; rfl) (fun K hK => ?_) AllReady.nil)
                go_simp
                refine (entry_must hM5.out bx1 bx2 bx3 bx4 hI1.out hI2.out hI3.out hI4.out hbd.ll).mono ?_
                rintro e uz ⟨⟨r, rfl⟩, lstz, hRMz, hbz, hkz⟩
                refine hK _ _ ?_
                clear hK K
                refine wpAny_done (by kernel_rfl) ?_ _
                clear x50 x51 x60 x61 hX5 hX6
                go_wp2
                go_ret
                refine ⟨rfl, lstz, _, _, hRMz, ?_, ?_⟩
                · exact (hBx5.out.alloc (Nat.le_trans hBw hBx5.out.size) _).trans hbz
                · exact (hKx5.out.alloc _).trans hkz
          refine AllReady.cons (by simp only [List.getElem?_toArray, List.getElem?_cons_succ, List.getElem?_cons_zero]; rfl) (fun K hK => ?_) AllReady.nil
          · go_simp
            refine (Word_any wClose _).mono ?_
            rintro e u4 ⟨bx4, rfl, hx4, hu4⟩
            have hM4 := hide (hM3.out.new hu4)
            have hI1 := hide (hI1.out.kept (KT.new [] hu4) (by simp))
            have hI2 := hide (hI2.out.kept (KT.new [] hu4) (by simp))
            have hI3 := hide (hI3.out.kept (KT.new [] hu4) (by simp))
            have hI4 : Hid (IsIt u4 R (.word wClose) ⟨8, .func 45, #[], #[.pointer (some ⟨bx4, 0, none⟩)]⟩) := ⟨bx4, rfl, hx4⟩
            have hBx4 := hide (below_ext hBx3.out hBw hu4)
            have hKx4 := hide (hKx3.out.trans (KT.new TS hu4))
            have hX5 := (hu4.block _ (lt_of_block hX5)).trans hX5
            have hX6 := (hu4.block _ (lt_of_block hX6)).trans hX6
            clear x50 x51 x60 x61
            obtain ⟨x50, x51⟩ := two_cells hX5
            obtain ⟨x60, x61⟩ := two_cells hX6
            refine hK _ _ ?_
            clear hK K
            refine wpAny_ready (rs := [7, 11]) (by kernel_rfl) (by simp) ?_
            refine AllReady.cons (by simp only [List.getElem?_toArray, List.getElem?_cons_succ, List.getElem?_cons_zero]; rfl) (fun K hK => ?_) ?_
            · go_simp
              refine hK _ _ ?_
              clear hK K
              refine wpAny_ready (rs := [11]) (by kernel_rfl) (by simp) ?_
              refine AllReady.cons (by simp only [List.getElem?_toArray, List.getElem?_cons_succ, List.getElem?_cons_zero]; rfl) (fun K hK => ?_) AllReady.nil
              · go_simp
                refine (Words_any (.func 56) _ _ _).mono ?_
                rintro e u5 ⟨rfl, hu5⟩
                have hM5 := hide (hM4.out.new hu5)
                have hI1 := hide (hI1.out.kept (KT.new [] hu5) (by simp))
                have hI2 := hide (hI2.out.kept (KT.new [] hu5) (by simp))
                have hI3 := hide (hI3.out.kept (KT.new [] hu5) (by simp))
                have hI4 := hide (hI4.out.kept (KT.new [] hu5) (by simp))
                have hI5 : Hid (IsIt u5 R (.inDir) ⟨8, .func 56, #[.pointer (some ⟨R, 0, none⟩)], #[]⟩) := rfl
                have hBx5 := hide (below_ext hBx4.out hBw hu5)
                have hKx5 := hide (hKx4.out.trans (KT.new TS hu5))
                have hX5 := (hu5.block _ (lt_of_block hX5)).trans hX5
                have hX6 := (hu5.block _ (lt_of_block hX6)).trans hX6
                clear x50 x51 x60 x61
                obtain ⟨x50, x51⟩ := two_cells hX5
                obtain ⟨x60, x61⟩ := two_cells hX6
                refine hK _ _ ?_
                clear hK K
                refine wpAny_ready (rs := [12]) (by kernel_rfl) (by simp) (AllReady.cons (by simp only [List.getElem?_toArray, List.getElem?_cons_succ, List.getElem?_cons_zero]; rfl) (fun K hK => ?_) AllReady.nil)
                go_simp
                refine hK _ _ ?_
                clear hK K
                refine wpAny_ready (rs := [13]) (by kernel_rfl) (by simp) (AllReady.cons (by simp only [List.getElem?_toArray, List.getElem?_cons_succ, List.getElem?_cons_zero]; rfl) (fun K hK => ?_) AllReady.nil)
                go_simp
                refine (entry_must hM5.out bx1 bx2 bx3 bx4 hI1.out hI2.out hI3.out hI4.out hbd.ll).mono ?_
                rintro e uz ⟨⟨r, rfl⟩, lstz, hRMz, hbz, hkz⟩
                refine hK _ _ ?_
                clear hK K
                refine wpAny_done (by kernel_rfl) ?_ _
                clear x50 x51 x60 x61 hX5 hX6
                go_wp2
                go_ret
                refine ⟨rfl, lstz, _, _, hRMz, ?_, ?_⟩
                · exact (hBx5.out.alloc (Nat.le_trans hBw hBx5.out.size) _).trans hbz
                · exact (hKx5.out.alloc _).trans hkz
            refine AllReady.cons (by simp only [List.getElem?_toArray, List.getElem?_cons_succ, List.getElem?_cons_zero]; rfl) (fun K hK => ?_) AllReady.nil
            · go_simp
              refine (Words_any (.func 56) _ _ _).mono ?_
              rintro e u5 ⟨rfl, hu5⟩
              have hM5 := hide (hM4.out.new hu5)
              have hI1 := hide (hI1.out.kept (KT.new [] hu5) (by simp))
              have hI2 := hide (hI2.out.kept (KT.new [] hu5) (by simp))
              have hI3 := hide (hI3.out.kept (KT.new [] hu5) (by simp))
              have hI4 := hide (hI4.out.kept (KT.new [] hu5) (by simp))
              have hI5 : Hid (IsIt u5 R (.inDir) ⟨8, .func 56, #[.pointer (some ⟨R, 0, none⟩)], #[]⟩) := rfl
              have hBx5 := hide (below_ext hBx4.out hBw hu5)
              have hKx5 := hide (hKx4.out.trans (KT.new TS hu5))
              have hX5 := (hu5.block _ (lt_of_block hX5)).trans hX5
              have hX6 := (hu5.block _ (lt_of_block hX6)).trans hX6
              clear x50 x51 x60 x61
              obtain ⟨x50, x51⟩ := two_cells hX5
              obtain ⟨x60, x61⟩ := two_cells hX6
              refine hK _ _ ?_
              clear hK K
              refine wpAny_ready (rs := [7]) (by kernel_rfl) (by simp) ?_
              refine AllReady.cons (by simp only [List.getElem?_toArray, List.getElem?_cons_succ, List.getElem?_cons_zero]; rfl) (fun K hK => ?_) AllReady.nil
              · go_simp
                refine hK _ _ ?_
                clear hK K
                refine wpAny_ready (rs := [12]) (by kernel_rfl) (by simp) (AllReady.cons (by simp only [List.getElem?_toArray, List.getElem?_cons_succ, List.getElem?_cons_zero]; rfl) (fun K hK => ?_) AllReady.nil)
                go_simp
                refine hK _ _ ?_
                clear hK K
                refine wpAny_ready (rs := [13]) (by kernel_rfl) (by simp) (AllReady.cons (by simp only [List.getElem?_toArray, List.getElem?_cons_succ, List.getElem?_cons_zero]; rfl) (fun K hK => ?_) AllReady.nil)
                go_simp
                refine (entry_must hM5.out bx1 bx2 bx3 bx4 hI1.out hI2.out hI3.out hI4.out hbd.ll).mono ?_
                rintro e uz ⟨⟨r, rfl⟩, lstz, hRMz, hbz, hkz⟩
                refine hK _ _ ?_
                clear hK K
                refine wpAny_done (by kernel_rfl) ?_ _
                clear x50 x51 x60 x61 hX5 hX6
                go_wp2
                go_ret
                refine ⟨rfl, lstz, _, _, hRMz, ?_, ?_⟩
                · exact (hBx5.out.alloc (Nat.le_trans hBw hBx5.out.size) _).trans hbz
                · exact (hKx5.out.alloc _).trans hkz
        refine AllReady.cons (by simp only [List.getElem?_toArray, List.getElem?_cons_succ, List.getElem?_cons_zero]; rfl) (fun K hK => ?_) AllReady.nil
        · go_simp
          refine hK _ _ ?_
          clear hK K
          refine wpAny_ready (rs := [6]) (by kernel_rfl) (by simp) ?_
          refine AllReady.cons (by simp only [List.getElem?_toArray, List.getElem?_cons_succ, List.getElem?_cons_zero]; rfl) (fun K hK => ?_) AllReady.nil
          · go_simp
            refine (Word_any wNode _).mono ?_
            rintro e u3 ⟨bx3, rfl, hx3, hu3⟩
            have hM3 := hide (hM2.out.new hu3)
            have hI1 := hide (hI1.out.kept (KT.new [] hu3) (by simp))
            have hI2 := hide (hI2.out.kept (KT.new [] hu3) (by simp))
            have hI3 : Hid (IsIt u3 R (.word wNode) ⟨8, .func 45, #[], #[.pointer (some ⟨bx3, 0, none⟩)]⟩) := ⟨bx3, rfl, hx3⟩
            have hBx3 := hide (below_ext hBx2.out hBw hu3)
            have hKx3 := hide (hKx2.out.trans (KT.new TS hu3))
            have hX5 := (hu3.block _ (lt_of_block hX5)).trans hX5
            have hX6 := (hu3.block _ (lt_of_block hX6)).trans hX6
            clear x50 x51 x60 x61
            obtain ⟨x50, x51⟩ := two_cells hX5
            obtain ⟨x60, x61⟩ := two_cells hX6
            refine hK _ _ ?_
            clear hK K
            refine wpAny_ready (rs := [8]) (by kernel_rfl) (by simp) ?_
            refine AllReady.cons (by simp only [List.getElem?_toArray, List.getElem?_cons_succ, List.getElem?_cons_zero]; rfl) (fun K hK => ?_) AllReady.nil
            · go_simp
              refine (Word_any wClose _).mono ?_
              rintro e u4 ⟨bx4, rfl, hx4, hu4⟩
              have hM4 := hide (hM3.out.new hu4)
              have hI1 := hide (hI1.out.kept (KT.new [] hu4) (by simp))
              have hI2 := hide (hI2.out.kept (KT.new [] hu4) (by simp))
              have hI3 := hide (hI3.out.kept (KT.new [] hu4) (by simp))
              have hI4 : Hid (IsIt u4 R (.word wClose) ⟨8, .func 45, #[], #[.pointer (some ⟨bx4, 0, none⟩)]⟩) := ⟨bx4, rfl, hx4⟩
              have hBx4 := hide (below_ext hBx3.out hBw hu4)
              have hKx4 := hide (hKx3.out.trans (KT.new TS hu4))
              have hX5 := (hu4.block _ (lt_of_block hX5)).trans hX5
              have hX6 := (hu4.block _ (lt_of_block hX6)).trans hX6
              clear x50 x51 x60 x61
              obtain ⟨x50, x51⟩ := two_cells hX5
              obtain ⟨x60, x61⟩ := two_cells hX6
              refine hK _ _ ?_
              clear hK K
              refine wpAny_ready (rs := [11]) (by kernel_rfl) (by simp) ?_
              refine AllReady.cons (by simp only [List.getElem?_toArray, List.getElem?_cons_succ, List.getElem?_cons_zero]; rfl) (fun K hK => ?_) AllReady.nil
              · go_simp
                refine (Words_any (.func 56) _ _ _).mono ?_
                rintro e u5 ⟨rfl, hu5⟩
                have hM5 := hide (hM4.out.new hu5)
                have hI1 := hide (hI1.out.kept (KT.new [] hu5) (by simp))
                have hI2 := hide (hI2.out.kept (KT.new [] hu5) (by simp))
                have hI3 := hide (hI3.out.kept (KT.new [] hu5) (by simp))
                have hI4 := hide (hI4.out.kept (KT.new [] hu5) (by simp))
                have hI5 : Hid (IsIt u5 R (.inDir) ⟨8, .func 56, #[.pointer (some ⟨R, 0, none⟩)], #[]⟩) := rfl
                have hBx5 := hide (below_ext hBx4.out hBw hu5)
                have hKx5 := hide (hKx4.out.trans (KT.new TS hu5))
                have hX5 := (hu5.block _ (lt_of_block hX5)).trans hX5
                have hX6 := (hu5.block _ (lt_of_block hX6)).trans hX6
                clear x50 x51 x60 x61
                obtain ⟨x50, x51⟩ := two_cells hX5
                obtain ⟨x60, x61⟩ := two_cells hX6
                refine hK _ _ ?_
                clear hK K
                refine wpAny_ready (rs := [12]) (by kernel_rfl) (by simp) (AllReady.cons (by simp only [List.getElem?_toArray, List.getElem?_cons_succ, List.getElem?_cons_zero]; rfl) (fun K hK => ?_) AllReady.nil)
                go_simp
                refine hK _ _ ?_
                clear hK K
                refine wpAny_ready (rs := [13]) (by kernel_rfl) (by simp) (AllReady.cons (by simp only [List.getElem?_toArray, List.getElem?_cons_succ, List.getElem?_cons_zero]; rfl) (fun K hK => ?_) AllReady.nil)
                go_simp
                refine (entry_must hM5.out bx1 bx2 bx3 bx4 hI1.out hI2.out hI3.out hI4.out hbd.ll).mono ?_
                rintro e uz ⟨⟨r, rfl⟩, lstz, hRMz, hbz, hkz⟩
                refine hK _ _ ?_
                clear hK K
                refine wpAny_done (by kernel_rfl) ?_ _
                clear x50 x51 x60 x61 hX5 hX6
                go_wp2
                go_ret
                refine ⟨rfl, lstz, _, _, hRMz, ?_, ?_⟩
                · exact (hBx5.out.alloc (Nat.le_trans hBw hBx5.out.size) _).trans hbz
                · exact (hKx5.out.alloc _).trans hkz
      refine AllReady.cons (by simp only [List.getElem?_toArray, List.getElem?_cons_succ, List.getElem?_cons_zero]; rfl) (fun K hK => ?_) ?_
      · go_simp
        refine (Word_any wNode _).mono ?_
        rintro e u3 ⟨bx3, rfl, hx3, hu3⟩
        have hM3 := hide (hM2.out.new hu3)
        have hI1 := hide (hI1.out.kept (KT.new [] hu3) (by simp))
        have hI2 := hide (hI2.out.kept (KT.new [] hu3) (by simp))
        have hI3 : Hid (IsIt u3 R (.word wNode) ⟨8, .func 45, #[], #[.pointer (some ⟨bx3, 0, none⟩)]⟩) := ⟨bx3, rfl, hx3⟩
        have hBx3 := hide (below_ext hBx2.out hBw hu3)
        have hKx3 := hide (hKx2.out.trans (KT.new TS hu3))
        have hX5 := (hu3.block _ (lt_of_block hX5)).trans hX5
        have hX6 := (hu3.block _ (lt_of_block hX6)).trans hX6
        clear x50 x51 x60 x61
        obtain ⟨x50, x51⟩ := two_cells hX5
        obtain ⟨x60, x61⟩ := two_cells hX6
        refine hK _ _ ?_
        clear hK K
        refine wpAny_ready (rs := [5, 7, 8]) (by kernel_rfl) (by simp) ?_
        refine AllReady.cons (by simp only [List.getElem?_toArray, List.getElem?_cons_succ, List.getElem?_cons_zero]; rfl) (fun K hK => ?_) ?_
        · go_simp
          refine hK _ _ ?_
          clear hK K
          refine wpAny_ready (rs := [7, 8]) (by kernel_rfl) (by simp) ?_
          refine AllReady.cons (by simp only [List.getElem?_toArray, List.getElem?_cons_succ, List.getElem?_cons_zero]; rfl) (fun K hK => ?_) ?_
          · go_simp
            refine hK _ _ ?_
            clear hK K
            refine wpAny_ready (rs := [8]) (by kernel_rfl) (by simp) ?_
            refine AllReady.cons (by simp only [List.getElem?_toArray, List.getElem?_cons_succ, List.getElem?_cons_zero]; rfl) (fun K hK => ?_) AllReady.nil
            · go_simp
              refine (Word_any wClose _).mono ?_
              rintro e u4 ⟨bx4, rfl, hx4, hu4⟩
              have hM4 := hide (hM3.out.new hu4)
              have hI1 := hide (hI1.out.kept (KT.new [] hu4) (by simp))
              have hI2 := hide (hI2.out.kept (KT.new [] hu4) (by simp))
              have hI3 := hide (hI3.out.kept (KT.new [] hu4) (by simp))
              have hI4 : Hid (IsIt u4 R (.word wClose) ⟨8, .func 45, #[], #[.pointer (some ⟨bx4, 0, none⟩)]⟩) := ⟨bx4, rfl, hx4⟩
              have hBx4 := hide (below_ext hBx3.out hBw hu4)
              have hKx4 := hide (hKx3.out.trans (KT.new TS hu4))
              have hX5 := (hu4.block _ (lt_of_block hX5)).trans hX5
              have hX6 := (hu4.block _ (lt_of_block hX6)).trans hX6
              clear x50 x51 x60 x61
              obtain ⟨x50, x51⟩ := two_cells hX5
              obtain ⟨x60, x61⟩ := two_cells hX6
              refine hK _ _ ?_
              clear hK K
              refine wpAny_ready (rs := [11]) (by kernel_rfl) (by simp) ?_
              refine AllReady.cons (by simp only [List.getElem?_toArray, List.getElem?_cons_succ, List.getElem?_cons_zero]; rfl) (fun K hK => ?_) AllReady.nil
              · go_simp
                refine (Words_any (.func 56) _ _ _).mono ?_
                rintro e u5 ⟨rfl, hu5⟩
                have hM5 := hide (hM4.out.new hu5)
                have hI1 := hide (hI1.out.kept (KT.new [] hu5) (by simp))
                have hI2 := hide (hI2.out.kept (KT.new [] hu5) (by simp))
                have hI3 := hide (hI3.out.kept (KT.new [] hu5) (by simp))
                have hI4 := hide (hI4.out.kept (KT.new [] hu5) (by simp))
                have hI5 : Hid (IsIt u5 R (.inDir) ⟨8, .func 56, #[.pointer (some ⟨R, 0, none⟩)], #[]⟩) := rfl
                have hBx5 := hide (below_ext hBx4.out hBw hu5)
                have hKx5 := hide (hKx4.out.trans (KT.new TS hu5))
                have hX5 := (hu5.block _ (lt_of_block hX5)).trans hX5
                have hX6 := (hu5.block _ (lt_of_block hX6)).trans hX6
                clear x50 x51 x60 x61
                obtain ⟨x50, x51⟩ := two_cells hX5
                obtain ⟨x60, x61⟩ := two_cells hX6
                refine hK _ _ ?_
                clear hK K
                refine wpAny_ready (rs := [12]) (by kernel_rfl) (by simp) (AllReady.cons (by simp only [List.getElem?_toArray, List.getElem?_cons_succ, List.getElem?_cons_zero]; rfl) (fun K hK => ?_) AllReady.nil)
                go_simp
                refine hK _ _ ?_
                clear hK K
                refine wpAny_ready (rs := [13]) (by kernel_rfl) (by simp) (AllReady.cons (by simp only [List.getElem?_toArray, List.getElem?_cons_succ, List.getElem?_cons_zero]; rfl) (fun K hK => ?_) AllReady.nil)
                go_simp
                refine (entry_must hM5.out bx1 bx2 bx3 bx4 hI1.out hI2.out hI3.out hI4.out hbd.ll).mono ?_
                rintro e uz ⟨⟨r, rfl⟩, lstz, hRMz, hbz, hkz⟩
                refine hK _ _ ?_
                clear hK K
                refine wpAny_done (by kernel_rfl) ?_ _
                clear x50 x51 x60 x61 hX5 hX6
                go_wp2
                go_ret
                refine ⟨rfl, lstz, _, _, hRMz, ?_, ?_⟩
                · exact (hBx5.out.alloc (Nat.le_trans hBw hBx5.out.size) _).trans hbz
                · exact (hKx5.out.alloc _).trans hkz
          refine AllReady.cons (by simp only [List.getElem?_toArray, List.getElem?_cons_succ, List.getElem?_cons_zero]; rfl) (fun K hK => ?_) AllReady.nil
          · go_simp
            refine (Word_any wClose _).mono ?_
            rintro e u4 ⟨bx4, rfl, hx4, hu4⟩
            have hM4 := hide (hM3.out.new hu4)
            have hI1 := hide (hI1.out.kept (KT.new [] hu4) (by simp))
            have hI2 := hide (hI2.out.kept (KT.new [] hu4) (by simp))
            have hI3 := hide (hI3.out.kept (KT.new [] hu4) (by simp))
            have hI4 : Hid (IsIt u4 R (.word wClose) ⟨8, .func 45, #[], #[.pointer (some ⟨bx4, 0, none⟩)]⟩) := ⟨bx4, rfl, hx4⟩
            have hBx4 := hide (below_ext hBx3.out hBw hu4)
            have hKx4 := hide (hKx3.out.trans (KT.new TS hu4))
            have hX5 := (hu4.block _ (lt_of_block hX5)).trans hX5
            have hX6 := (hu4.block _ (lt_of_block hX6)).trans hX6
            clear x50 x51 x60 x61
            obtain ⟨x50, x51⟩ := two_cells hX5
            obtain ⟨x60, x61⟩ := two_cells hX6
            refine hK _ _ ?_
            clear hK K
            refine wpAny_ready (rs := [7, 11]) (by kernel_rfl) (by simp) ?_
            refine AllReady.cons (by simp only [List.getElem?_toArray, List.getElem?_cons_succ, List.getElem?_cons_zero]; rfl) (fun K hK => ?_) ?_
            · go_simp
              refine hK _ _ ?_
              clear hK K
              refine wpAny_ready (rs := [11]) (by kernel_rfl) (by simp) ?_
              refine AllReady.cons (by simp only [List.getElem?_toArray, List.getElem?_cons_succ, List.getElem?_cons_zero]; rfl) (fun K hK => ?_) AllReady.nil
              · go_simp
                refine (Words_any (.func 56) _ _ _).mono ?_
                rintro e u5 ⟨rfl, hu5⟩
                have hM5 := hide (hM4.out.new hu5)
                have hI1 := hide (hI1.out.kept (KT.new [] hu5) (by simp))
                have hI2 := hide (hI2.out.kept (KT.new [] hu5) (by simp))
                have hI3 := hide (hI3.out.kept (KT.new [] hu5) (by simp))
                have hI4 := hide (hI4.out.kept (KT.new [] hu5) (by simp))
                have hI5 : Hid (IsIt u5 R (.inDir) ⟨8, .func 56, #[.pointer (some ⟨R, 0, none⟩)], #[]⟩) := rfl
                have hBx5 := hide (below_ext hBx4.out hBw hu5)
                have hKx5 := hide (hKx4.out.trans (KT.new TS hu5))
                have hX5 := (hu5.block _ (lt_of_block hX5)).trans hX5
                have hX6 := (hu5.block _ (lt_of_block hX6)).trans hX6
                clear x50 x51 x60 x61
                obtain ⟨x50, x51⟩ := two_cells hX5
                obtain ⟨x60, x61⟩ := two_cells hX6
                refine hK _ _ ?_
                clear hK K
                refine wpAny_ready (rs := [12]) (by kernel_rfl) (by simp) (AllReady.cons (by simp only [List.getElem?_toArray, List.getElem?_cons_succ, List.getElem?_cons_zero]; rfl) (fun K hK => ?_) AllReady.nil)
                go_simp
                refine hK _ _ ?_
                clear hK K
                refine wpAny_ready (rs := [13]) (by kernel_rfl) (by simp) (AllReady.cons (by simp only [List.getElem?_toArray, List.getElem?_cons_succ, List.getElem?_cons_zero]; rfl) (fun K hK => ?_) AllReady.nil)
                go_simp
                refine (entry_must hM5.out bx1 bx2 bx3 bx4 hI1.out hI2.out hI3.out hI4.out hbd.ll).mono ?_
                rintro e uz ⟨⟨r, rfl⟩, lstz, hRMz, hbz, hkz⟩
                refine hK _ _ ?_
                clear hK K
                refine wpAny_done (by kernel_rfl) ?_ _
                clear x50 x51 x60 x61 hX5 hX6
                go_wp2
                go_ret
                refine ⟨rfl, lstz, _, _, hRMz, ?_, ?_⟩
                · exact (hBx5.out.alloc (Nat.le_trans hBw hBx5.out.size) _).trans hbz
                · exact (hKx5.out.alloc _).trans hkz
            refine AllReady.cons (by simp only [List.getElem?_toArray, List.getElem?_cons_succ, List.getElem?_cons_zero]; rfl) (fun K hK => ?_) AllReady.nil
            · go_simp
              refine (Words_any (.func 56) _ _ _).mono ?_
              rintro e u5 ⟨rfl, hu5⟩
              have hM5 := hide (hM4.out.new hu5)
              have hI1 := hide (hI1.out.kept (KT.new [] hu5) (by simp))
              have hI2 := hide (hI2.out.kept (KT.new [] hu5) (by simp))
              have hI3 := hide (hI3.out.kept (KT.new [] hu5) (by simp))
              have hI4 := hide (hI4.out.kept (KT.new [] hu5) (by simp))
              have hI5 : Hid (IsIt u5 R (.inDir) ⟨8, .func 56, #[.pointer (some ⟨R, 0, none⟩)], #[]⟩) := rfl
              have hBx5 := hide (below_ext hBx4.out hBw hu5)
              have hKx5 := hide (hKx4.out.trans (KT.new TS hu5))
              have hX5 := (hu5.block _ (lt_of_block hX5)).trans hX5
              have hX6 := (hu5.block _ (lt_of_block hX6)).trans hX6
              clear x50 x51 x60 x61
              obtain ⟨x50, x51⟩ := two_cells hX5
              obtain ⟨x60, x61⟩ := two_cells hX6
              refine hK _ _ ?_
              clear hK K
              refine wpAny_ready (rs := [7]) (by kernel_rfl) (by simp) ?_
              refine AllReady.cons (by simp only [List.getElem?_toArray, List.getElem?_cons_succ, List.getElem?_cons_zero]; rfl) (fun K hK => ?_) AllReady.nil
              · go_simp
                refine hK _ _ ?_
                clear hK K
                refine wpAny_ready (rs := [12]) (by kernel_rfl) (by simp) (AllReady.cons (by simp only [List.getElem?_toArray, List.getElem?_cons_succ, List.getElem?_cons_zero]; rfl) (fun K hK => ?_) AllReady.nil)
                go_simp
                refine hK _ _ ?_
                clear hK K
                refine wpAny_ready (rs := [13]) (by kernel_rfl) (by simp) (AllReady.cons (by simp only [List.getElem?_toArray, List.getElem?_cons_succ, List.getElem?_cons_zero]; rfl) (fun K hK => ?_) AllReady.nil)
                go_simp
                refine (entry_must hM5.out bx1 bx2 bx3 bx4 hI1.out hI2.out hI3.out hI4.out hbd.ll).mono ?_
                rintro e uz ⟨⟨r, rfl⟩, lstz, hRMz, hbz, hkz⟩
                refine hK _ _ ?_
                clear hK K
                refine wpAny_done (by kernel_rfl) ?_ _
                clear x50 x51 x60 x61 hX5 hX6
                go_wp2
                go_ret
                refine ⟨rfl, lstz, _, _, hRMz, ?_, ?_⟩
                · exact (hBx5.out.alloc (Nat.le_trans hBw hBx5.out.size) _).trans hbz
                · exact (hKx5.out.alloc _).trans hkz
        refine AllReady.cons (by simp only [List.getElem?_toArray, List.getElem?_cons_succ, List.getElem?_cons_zero]; rfl) (fun K hK => ?_) ?_
        · go_simp
          refine hK _ _ ?_
          clear hK K
          refine wpAny_ready (rs := [5, 8]) (by kernel_rfl) (by simp) ?_
          refine AllReady.cons (by simp only [List.getElem?_toArray, List.getElem?_cons_succ, List.getElem?_cons_zero]; rfl) (fun K hK => ?_) ?_
          · go_simp
            refine hK _ _ ?_
            clear hK K
            refine wpAny_ready (rs := [8]) (by kernel_rfl) (by simp) ?_
            refine AllReady.cons (by simp only [List.getElem?_toArray, List.getElem?_cons_succ, List.getElem?_cons_zero]; rfl) (fun K hK => ?_) AllReady.nil
            · go_simp
              refine (Word_any wClose _).mono ?_
              rintro e u4 ⟨bx4, rfl, hx4, hu4⟩
              have hM4 := hide (hM3.out.new hu4)
              have hI1 := hide (hI1.out.kept (KT.new [] hu4) (by simp))
              have hI2 := hide (hI2.out.kept (KT.new [] hu4) (by simp))
              have hI3 := hide (hI3.out.kept (KT.new [] hu4) (by simp))
              have hI4 : Hid (IsIt u4 R (.word wClose) ⟨8, .func 45, #[], #[.pointer (some ⟨bx4, 0, none⟩)]⟩) := ⟨bx4, rfl, hx4⟩
              have hBx4 := hide (below_ext hBx3.out hBw hu4)
              have hKx4 := hide (hKx3.out.trans (KT.new TS hu4))
              have hX5 := (hu4.block _ (lt_of_block hX5)).trans hX5
              have hX6 := (hu4.block _ (lt_of_block hX6)).trans hX6
              clear x50 x51 x60 x61
              obtain ⟨x50, x51⟩ := two_cells hX5
              obtain ⟨x60, x61⟩ := two_cells hX6
              refine hK _ _ ?_
              clear hK K
              refine wpAny_ready (rs := [11]) (by kernel_rfl) (by simp) ?_
              refine AllReady.cons (by simp only [List.getElem?_toArray, List.getElem?_cons_succ, List.getElem?_cons_zero]; rfl) (fun K hK => ?_) AllReady.nil
              · go_simp
                refine (Words_any (.func 56) _ _ _).mono ?_
                rintro e u5 ⟨rfl, hu5⟩
                have hM5 := hide (hM4.out.new hu5)
                have hI1 := hide (hI1.out.kept (KT.new [] hu5) (by simp))
                have hI2 := hide (hI2.out.kept (KT.new [] hu5) (by simp))
                have hI3 := hide (hI3.out.kept (KT.new [] hu5) (by simp))
                have hI4 := hide (hI4.out.kept (KT.new [] hu5) (by simp))
                have hI5 : Hid (IsIt u5 R (.inDir) ⟨8, .func 56, #[.pointer (some ⟨R, 0, none⟩)], #[]⟩) := rfl
                have hBx5 := hide (below_ext hBx4.out hBw hu5)
                have hKx5 := hide (hKx4.out.trans (KT.new TS hu5))
                have hX5 := (hu5.block _ (lt_of_block hX5)).trans hX5
                have hX6 := (hu5.block _ (lt_of_block hX6)).trans hX6
                clear x50 x51 x60 x61
                obtain ⟨x50, x51⟩ := two_cells hX5
                obtain ⟨x60, x61⟩ := two_cells hX6
                refine hK _ _ ?_
                clear hK K
                refine wpAny_ready (rs := [12]) (by kernel_rfl) (by simp) (AllReady.cons (by simp only [List.getElem?_toArray, List.getElem?_cons_succ, List.getElem?_cons_zero]; rfl) (fun K hK => ?_) AllReady.nil)
                go_simp
                refine hK _ _ ?_
                clear hK K
                refine wpAny_ready (rs := [13]) (by kernel_rfl) (by simp) (AllReady.cons (by simp only [List.getElem?_toArray, List.getElem?_cons_succ, List.getElem?_cons_zero]; rfl) (fun K hK => ?_) AllReady.nil)
                go_simp
                refine (entry_must hM5.out bx1 bx2 bx3 bx4 hI1.out hI2.out hI3.out hI4.out hbd.ll).mono ?_
                rintro e uz ⟨⟨r, rfl⟩, lstz, hRMz, hbz, hkz⟩
                refine hK _ _ ?_
                clear hK K
                refine wpAny_done (by kernel_rfl) ?_ _
                clear x50 x51 x60 x61 hX5 hX6
                go_wp2
                go_ret
                refine ⟨rfl, lstz, _, _, hRMz, ?_, ?_⟩
                · exact (hBx5.out.alloc (Nat.le_trans hBw hBx5.out.size) _).trans hbz
                · exact (hKx5.out.alloc _).trans hkz
          refine AllReady.cons (by simp only [List.getElem?_toArray, List.getElem?_cons_succ, List.getElem?_cons_zero]; rfl) (fun K hK => ?_) AllReady.nil
          · go_simp
            refine (Word_any wClose _).mono ?_
            rintro e u4 ⟨bx4, rfl, hx4, hu4⟩
            have hM4 := hide (hM3.out.new hu4)
            have hI1 := hide (hI1.out.kept (KT.new [] hu4) (by simp))
            have hI2 := hide (hI2.out.kept (KT.new [] hu4) (by simp))
            have hI3 := hide (hI3.out.kept (KT.new [] hu4) (by simp))
            have hI4 : Hid (IsIt u4 R (.word wClose) ⟨8, .func 45, #[], #[.pointer (some ⟨bx4, 0, none⟩)]⟩) := ⟨bx4, rfl, hx4⟩
            have hBx4 := hide (below_ext hBx3.out hBw hu4)
            have hKx4 := hide (hKx3.out.trans (KT.new TS hu4))
            have hX5 := (hu4.block _ (lt_of_block hX5)).trans hX5
            have hX6 := (hu4.block _ (lt_of_block hX6)).trans hX6
            clear x50 x51 x60 x61
            obtain ⟨x50, x51⟩ := two_cells hX5
            obtain ⟨x60, x61⟩ := two_cells hX6
            refine hK _ _ ?_
            clear hK K
            refine wpAny_ready (rs := [5, 11]) (by kernel_rfl) (by simp) ?_
            refine AllReady.cons (by simp only [List.getElem?_toArray, List.getElem?_cons_succ, List.getElem?_cons_zero]; rfl) (fun K hK => ?_) ?_
            · go_simp
              refine hK _ _ ?_
              clear hK K
              refine wpAny_ready (rs := [11]) (by kernel_rfl) (by simp) ?_
              refine AllReady.cons (by simp only [List.getElem?_toArray, List.getElem?_cons_succ, List.getElem?_cons_zero]; rfl) (fun K hK => ?_) AllReady.nil
              · go_simp
                refine (Words_any (.func 56) _ _ _).mono ?_
                rintro e u5 ⟨rfl, hu5⟩
                have hM5 := hide (hM4.out.new hu5)
                have hI1 := hide (hI1.out.kept (KT.new [] hu5) (by simp))
                have hI2 := hide (hI2.out.kept (KT.new [] hu5) (by simp))
                have hI3 := hide (hI3.out.kept (KT.new [] hu5) (by simp))
                have hI4 := hide (hI4.out.kept (KT.new [] hu5) (by simp))
                have hI5 : Hid (IsIt u5 R (.inDir) ⟨8, .func 56, #[.pointer (some ⟨R, 0, none⟩)], #[]⟩) := rfl
                have hBx5 := hide (below_ext hBx4.out hBw hu5)
                have hKx5 := hide (hKx4.out.trans (KT.new TS hu5))
                have hX5 := (hu5.block _ (lt_of_block hX5)).trans hX5
                have hX6 := (hu5.block _ (lt_of_block hX6)).trans hX6
                clear x50 x51 x60 x61
                obtain ⟨x50, x51⟩ := two_cells hX5
                obtain ⟨x60, x61⟩ := two_cells hX6
                refine hK _ _ ?_
                clear hK K
                refine wpAny_ready (rs := [12]) (by kernel_rfl) (by simp) (AllReady.cons (by simp only [List.getElem?_toArray, List.getElem?_cons_succ, List.getElem?_cons_zero]; rfl) (fun K hK => ?_) AllReady.nil)
                go_simp
                refine hK _ _ ?_
                clear hK K
                refine wpAny_ready (rs := [13]) (by kernel_rfl) (by simp) (AllReady.cons (by simp only [List.getElem?_toArray, List.getElem?_cons_succ, List.getElem?_cons_zero]; rfl) (fun K hK => ?_) AllReady.nil)
                go_simp
                refine (entry_must hM5.out bx1 bx2 bx3 bx4 hI1.out hI2.out hI3.out hI4.out hbd.ll).mono ?_
                rintro e uz ⟨⟨r, rfl⟩, lstz, hRMz, hbz, hkz⟩
                refine hK _ _ ?_
                clear hK K
                refine wpAny_done (by kernel_rfl) ?_ _
                clear x50 x51 x60 x61 hX5 hX6
                go_wp2
                go_ret
                refine ⟨rfl, lstz, _, _, hRMz, ?_, ?_⟩
                · exact (hBx5.out.alloc (Nat.le_trans hBw hBx5.out.size) _).trans hbz
                · exact (hKx5.out.alloc _).trans hkz
            refine AllReady.cons (by simp only [List.getElem?_toArray, List.getElem?_cons_succ, List.getElem?_cons_zero]; rfl) (fun K hK => ?_) AllReady.nil
            · go_simp
              refine (Words_any (.func 56) _ _ _).mono ?_
              rintro e u5 ⟨rfl, hu5⟩
              have hM5 := hide (hM4.out.new hu5)
              have hI1 := hide (hI1.out.kept (KT.new [] hu5) (by simp))
              have hI2 := hide (hI2.out.kept (KT.new [] hu5) (by simp))
              have hI3 := hide (hI3.out.kept (KT.new [] hu5) (by simp))
              have hI4 := hide (hI4.out.kept (KT.new [] hu5) (by simp))
              have hI5 : Hid (IsIt u5 R (.inDir) ⟨8, .func 56, #[.pointer (some ⟨R, 0, none⟩)], #[]⟩) := rfl
              have hBx5 := hide (below_ext hBx4.out hBw hu5)
              have hKx5 := hide (hKx4.out.trans (KT.new TS hu5))
              have hX5 := (hu5.block _ (lt_of_block hX5)).trans hX5
              have hX6 := (hu5.block _ (lt_of_block hX6)).trans hX6
              clear x50 x51 x60 x61
              obtain ⟨x50, x51⟩ := two_cells hX5
              obtain ⟨x60, x61⟩ := two_cells hX6
              refine hK _ _ ?_
              clear hK K
              refine wpAny_ready (rs := [5]) (by kernel_rfl) (by simp) ?_
              refine AllReady.cons (by simp only [List.getElem?_toArray, List.getElem?_cons_succ, List.getElem?_cons_zero]; rfl) (fun K hK => ?_) AllReady.nil
              · go_simp
                refine hK _ _ ?_
                clear hK K
                refine wpAny_ready (rs := [12]) (by kernel_rfl) (by simp) (AllReady.cons (by simp only [List.getElem?_toArray, List.getElem?_cons_succ, List.getElem?_cons_zero]; rfl) (fun K hK => ?_) AllReady.nil)
                go_simp
                refine hK _ _ ?_
                clear hK K
                refine wpAny_ready (rs := [13]) (by kernel_rfl) (by simp) (AllReady.cons (by simp only [List.getElem?_toArray, List.getElem?_cons_succ, List.getElem?_cons_zero]; rfl) (fun K hK => ?_) AllReady.nil)
                go_simp
                refine (entry_must hM5.out bx1 bx2 bx3 bx4 hI1.out hI2.out hI3.out hI4.out hbd.ll).mono ?_
                rintro e uz ⟨⟨r, rfl⟩, lstz, hRMz, hbz, hkz⟩
                refine hK _ _ ?_
                clear hK K
                refine wpAny_done (by kernel_rfl) ?_ _
                clear x50 x51 x60 x61 hX5 hX6
                go_wp2
                go_ret
                refine ⟨rfl, lstz, _, _, hRMz, ?_, ?_⟩
                · exact (hBx5.out.alloc (Nat.le_trans hBw hBx5.out.size) _).trans hbz
                · exact (hKx5.out.alloc _).trans hkz
        refine AllReady.cons (by simp only [List.getElem?_toArray, List.getElem?_cons_succ, List.getElem?_cons_zero]; rfl) (fun K hK => ?_) AllReady.nil
        · go_simp
          refine (Word_any wClose _).mono ?_
          rintro e u4 ⟨bx4, rfl, hx4, hu4⟩
          have hM4 := hide (hM3.out.new hu4)
          have hI1 := hide (hI1.out.kept (KT.new [] hu4) (by simp))
          have hI2 := hide (hI2.out.kept (KT.new [] hu4) (by simp))
          have hI3 := hide (hI3.out.kept (KT.new [] hu4) (by simp))
          have hI4 : Hid (IsIt u4 R (.word wClose) ⟨8, .func 45, #[], #[.pointer (some ⟨bx4, 0, none⟩)]⟩) := ⟨bx4, rfl, hx4⟩
          have hBx4 := hide (below_ext hBx3.out hBw hu4)
          have hKx4 := hide (hKx3.out.trans (KT.new TS hu4))
          have hX5 := (hu4.block _ (lt_of_block hX5)).trans hX5
          have hX6 := (hu4.block _ (lt_of_block hX6)).trans hX6
          clear x50 x51 x60 x61
          obtain ⟨x50, x51⟩ := two_cells hX5
          obtain ⟨x60, x61⟩ := two_cells hX6
          refine hK _ _ ?_
          clear hK K
          refine wpAny_ready (rs := [5, 7, 11]) (by kernel_rfl) (by simp) ?_
          refine AllReady.cons (by simp only [List.getElem?_toArray, List.getElem?_cons_succ, List.getElem?_cons_zero]; rfl) (fun K hK => ?_) ?_
          · go_simp
            refine hK _ _ ?_
            clear hK K
            refine wpAny_ready (rs := [7, 11]) (by kernel_rfl) (by simp) ?_
            refine AllReady.cons (by simp only [List.getElem?_toArray, List.getElem?_cons_succ, List.getElem?_cons_zero]; rfl) (fun K hK => ?_) ?_
            · go_simp
              refine hK _ _ ?_
              clear hK K
              refine wpAny_ready (rs := [11]) (by kernel_rfl) (by simp) ?_
              refine AllReady.cons (by simp only [List.getElem?_toArray, List.getElem?_cons_succ, List.getElem?_cons_zero]; rfl) (fun K hK => ?_) AllReady.nil
              · go_simp
                refine (Words_any (.func 56) _ _ _).mono ?_
                rintro e u5 ⟨rfl, hu5⟩
                have hM5 := hide (hM4.out.new hu5)
                have hI1 := hide (hI1.out.kept (KT.new [] hu5) (by simp))
                have hI2 := hide (hI2.out.kept (KT.new [] hu5) (by simp))
                have hI3 := hide (hI3.out.kept (KT.new [] hu5) (by simp))
                have hI4 := hide (hI4.out.kept (KT.new [] hu5) (by simp))
                have hI5 : Hid (IsIt u5 R (.inDir) ⟨8, .func 56, #[.pointer (some ⟨R, 0, none⟩)], #[]⟩) := rfl
                have hBx5 := hide (below_ext hBx4.out hBw hu5)
                have hKx5 := hide (hKx4.out.trans (KT.new TS hu5))
                have hX5 := (hu5.block _ (lt_of_block hX5)).trans hX5
                have hX6 := (hu5.block _ (lt_of_block hX6)).trans hX6
                clear x50 x51 x60 x61
                obtain ⟨x50, x51⟩ := two_cells hX5
                obtain ⟨x60, x61⟩ := two_cells hX6
                refine hK _ _ ?_
                clear hK K
                refine wpAny_ready (rs := [12]) (by kernel_rfl) (by simp) (AllReady.cons (by simp only [List.getElem?_toArray, List.getElem?_cons_succ, List.getElem?_cons_zero]; rfl) (fun K hK => ?_) AllReady.nil)
                go_simp
                refine hK _ _ ?_
                clear hK K
                refine wpAny_ready (rs := [13]) (by kernel_rfl) (by simp) (AllReady.cons (by simp only [List.getElem?_toArray, List.getElem?_cons_succ, List.getElem?_cons_zero]; rfl) (fun K hK => ?_) AllReady.nil)
                go_simp
                refine (entry_must hM5.out bx1 bx2 bx3 bx4 hI1.out hI2.out hI3.out hI4.out hbd.ll).mono ?_
                rintro e uz ⟨⟨r, rfl⟩, lstz, hRMz, hbz, hkz⟩
                refine hK _ _ ?_
                clear hK K
                refine wpAny_done (by kernel_rfl) ?_ _
                clear x50 x51 x60 x61 hX5 hX6
                go_wp2
                go_ret
                refine ⟨rfl, lstz, _, _, hRMz, ?_, ?_⟩
                · exact (hBx5.out.alloc (Nat.le_trans hBw hBx5.out.size) _).trans hbz
                · exact (hKx5.out.alloc _).trans hkz
            refine AllReady.cons (by simp only [List.getElem?_toArray, List.getElem?_cons_succ, List.getElem?_cons_zero]; rfl) (fun K hK => ?_) AllReady.nil
            · go_simp
              refine (Words_any (.func 56) _ _ _).mono ?_
              rintro e u5 ⟨rfl, hu5⟩
              have hM5 := hide (hM4.out.new hu5)
              have hI1 := hide (hI1.out.kept (KT.new [] hu5) (by simp))
              have hI2 := hide (hI2.out.kept (KT.new [] hu5) (by simp))
              have hI3 := hide (hI3.out.kept (KT.new [] hu5) (by simp))
              have hI4 := hide (hI4.out.kept (KT.new [] hu5) (by simp))
              have hI5 : Hid (IsIt u5 R (.inDir) ⟨8, .func 56, #[.pointer (some ⟨R, 0, none⟩)], #[]⟩) := rfl
              have hBx5 := hide (below_ext hBx4.out hBw hu5)
              have hKx5 := hide (hKx4.out.trans (KT.new TS hu5))
              have hX5 := (hu5.block _ (lt_of_block hX5)).trans hX5
              have hX6 := (hu5.block _ (lt_of_block hX6)).trans hX6
              clear x50 x51 x60 x61
              obtain ⟨x50, x51⟩ := two_cells hX5
              obtain ⟨x60, x61⟩ := two_cells hX6
              refine hK _ _ ?_
              clear hK K
              refine wpAny_ready (rs := [7]) (by kernel_rfl) (by simp) ?_
              refine AllReady.cons (by simp only [List.getElem?_toArray, List.getElem?_cons_succ, List.getElem?_cons_zero]; rfl) (fun K hK => ?_) AllReady.nil
              · go_simp
                refine hK _ _ ?_
                clear hK K
                refine wpAny_ready (rs := [12]) (by kernel_rfl) (by simp) (AllReady.cons (by simp only [List.getElem?_toArray, List.getElem?_cons_succ, List.getElem?_cons_zero]; rfl) (fun K hK => ?_) AllReady.nil)
                go_simp
                refine hK _ _ ?_
                clear hK K
                refine wpAny_ready (rs := [13]) (by kernel_rfl) (by simp) (AllReady.cons (by simp only [List.getElem?_toArray, List.getElem?_cons_succ, List.getElem?_cons_zero]; rfl) (fun K hK => ?_) AllReady.nil)
                go_simp
                refine (entry_must hM5.out bx1 bx2 bx3 bx4 hI1.out hI2.out hI3.out hI4.out hbd.ll).mono ?_
                rintro e uz ⟨⟨r, rfl⟩, lstz, hRMz, hbz, hkz⟩
                refine hK _ _ ?_
                clear hK K
                refine wpAny_done (by kernel_rfl) ?_ _
                clear x50 x51 x60 x61 hX5 hX6
                go_wp2
                go_ret
                refine ⟨rfl, lstz, _, _, hRMz, ?_, ?_⟩
                · exact (hBx5.out.alloc (Nat.le_trans hBw hBx5.out.size) _).trans hbz
                · exact (hKx5.out.alloc _).trans hkz
          refine AllReady.cons (by simp only [List.getElem?_toArray, List.getElem?_cons_succ, List.getElem?_cons_zero]; rfl) (fun K hK => ?_) ?_
          · go_simp
            refine hK _ _ ?_
            clear hK K
            refine wpAny_ready (rs := [5, 11]) (by kernel_rfl) (by simp) ?_
            refine AllReady.cons (by simp only [List.getElem?_toArray, List.getElem?_cons_succ, List.getElem?_cons_zero]; rfl) (fun K hK => ?_) ?_
            · go_simp
              refine hK _ _ ?_
              clear hK K
              refine wpAny_ready (rs := [11]) (by kernel_rfl) (by simp) ?_
              refine AllReady.cons (by simp only [List.getElem?_toArray, List.getElem?_cons_succ, List.getElem?_cons_zero]; rfl) (fun K hK => ?_) AllReady.nil
              · go_simp
                refine (Words_any (.func 56) _ _ _).mono ?_
                rintro e u5 ⟨rfl, hu5⟩
                have hM5 := hide (hM4.out.new hu5)
                have hI1 := hide (hI1.out.kept (KT.new [] hu5) (by simp))
                have hI2 := hide (hI2.out.kept (KT.new [] hu5) (by simp))
                have hI3 := hide (hI3.out.kept (KT.new [] hu5) (by simp))
                have hI4 := hide (hI4.out.kept (KT.new [] hu5) (by simp))
                have hI5 : Hid (IsIt u5 R (.inDir) ⟨8, .func 56, #[.pointer (some ⟨R, 0, none⟩)], #[]⟩) := rfl
                have hBx5 := hide (below_ext hBx4.out hBw hu5)
                have hKx5 := hide (hKx4.out.trans (KT.new TS hu5))
                have hX5 := (hu5.block _ (lt_of_block hX5)).trans hX5
                have hX6 := (hu5.block _ (lt_of_block hX6)).trans hX6
                clear x50 x51 x60 x61
                obtain ⟨x50, x51⟩ := two_cells hX5
                obtain ⟨x60, x61⟩ := two_cells hX6
                refine hK _ _ ?_
                clear hK K
                refine wpAny_ready (rs := [12]) (by kernel_rfl) (by simp) (AllReady.cons (by simp only [List.getElem?_toArray, List.getElem?_cons_succ, List.getElem?_cons_zero]; rfl) (fun K hK => ?_) AllReady.nil)
                go_simp
                refine hK _ _ ?_
                clear hK K
                refine wpAny_ready (rs := [13]) (by kernel_rfl) (by simp) (AllReady.cons (by simp only [List.getElem?_toArray, List.getElem?_cons_succ, List.getElem?_cons_zero]; rfl) (fun K hK => ?_) AllReady.nil)
                go_simp
                refine (entry_must hM5.out bx1 bx2 bx3 bx4 hI1.out hI2.out hI3.out hI4.out hbd.ll).mono ?_
                rintro e uz ⟨⟨r, rfl⟩, lstz, hRMz, hbz, hkz⟩
                refine hK _ _ ?_
                clear hK K
                refine wpAny_done (by kernel_rfl) ?_ _
                clear x50 x51 x60 x61 hX5 hX6
                go_wp2
                go_ret
                refine ⟨rfl, lstz, _, _, hRMz, ?_, ?_⟩
                · exact (hBx5.out.alloc (Nat.le_trans hBw hBx5.out.size) _).trans hbz
                · exact (hKx5.out.alloc _).trans hkz
            refine AllReady.cons (by simp only [List.getElem?_toArray, List.getElem?_cons_succ, List.getElem?_cons_zero]; rfl) (fun K hK => ?_) AllReady.nil
            · go_simp
              refine (Words_any (.func 56) _ _ _).mono ?_
              rintro e u5 ⟨rfl, hu5⟩
              have hM5 := hide (hM4.out.new hu5)
              have hI1 := hide (hI1.out.kept (KT.new [] hu5) (by simp))
              have hI2 := hide (hI2.out.kept (KT.new [] hu5) (by simp))
              have hI3 := hide (hI3.out.kept (KT.new [] hu5) (by simp))
              have hI4 := hide (hI4.out.kept (KT.new [] hu5) (by simp))
              have hI5 : Hid (IsIt u5 R (.inDir) ⟨8, .func 56, #[.pointer (some ⟨R, 0, none⟩)], #[]⟩) := rfl
              have hBx5 := hide (below_ext hBx4.out hBw hu5)
              have hKx5 := hide (hKx4.out.trans (KT.new TS hu5))
              have hX5 := (hu5.block _ (lt_of_block hX5)).trans hX5
              have hX6 := (hu5.block _ (lt_of_block hX6)).trans hX6
              clear x50 x51 x60 x61
              obtain ⟨x50, x51⟩ := two_cells hX5
              obtain ⟨x60, x61⟩ := two_cells hX6
              refine hK _ _ ?_
              clear hK K
              refine wpAny_ready (rs := [5]) (by kernel_rfl) (by simp) ?_
              refine AllReady.cons (by simp only [List.getElem?_toArray, List.getElem?_cons_succ, List.getElem?_cons_zero]; rfl) (fun K hK => ?_) AllReady.nil
              · go_simp
                refine hK _ _ ?_
                clear hK K
                refine wpAny_ready (rs := [12]) (by kernel_rfl) (by simp) (AllReady.cons (by simp only [List.getElem?_toArray, List.getElem?_cons_succ, List.getElem?_cons_zero]; rfl) (fun K hK => ?_) AllReady.nil)
                go_simp
                refine hK _ _ ?_
                clear hK K
                refine wpAny_ready (rs := [13]) (by kernel_rfl) (by simp) (AllReady.cons (by simp only [List.getElem?_toArray, List.getElem?_cons_succ, List.getElem?_cons_zero]; rfl) (fun K hK => ?_) AllReady.nil)
                go_simp
                refine (entry_must hM5.out bx1 bx2 bx3 bx4 hI1.out hI2.out hI3.out hI4.out hbd.ll).mono ?_
                rintro e uz ⟨⟨r, rfl⟩, lstz, hRMz, hbz, hkz⟩
                refine hK _ _ ?_
                clear hK K
                refine wpAny_done (by kernel_rfl) ?_ _
                clear x50 x51 x60 x61 hX5 hX6
                go_wp2
                go_ret
                refine ⟨rfl, lstz, _, _, hRMz, ?_, ?_⟩
                · exact (hBx5.out.alloc (Nat.le_trans hBw hBx5.out.size) _).trans hbz
                · exact (hKx5.out.alloc _).trans hkz
          refine AllReady.cons (by simp only [List.getElem?_toArray, List.getElem?_cons_succ, List.getElem?_cons_zero]; rfl) (fun K hK => ?_) AllReady.nil
          · go_simp
            refine (Words_any (.func 56) _ _ _).mono ?_
            rintro e u5 ⟨rfl, hu5⟩
            have hM5 := hide (hM4.out.new hu5)
            have hI1 := hide (hI1.out.kept (KT.new [] hu5) (by simp))
            have hI2 := hide (hI2.out.kept (KT.new [] hu5) (by simp))
            have hI3 := hide (hI3.out.kept (KT.new [] hu5) (by simp))
            have hI4 := hide (hI4.out.kept (KT.new [] hu5) (by simp))
            have hI5 : Hid (IsIt u5 R (.inDir) ⟨8, .func 56, #[.pointer (some ⟨R, 0, none⟩)], #[]⟩) := rfl
            have hBx5 := hide (below_ext hBx4.out hBw hu5)
            have hKx5 := hide (hKx4.out.trans (KT.new TS hu5))
            have hX5 := (hu5.block _ (lt_of_block hX5)).trans hX5
            have hX6 := (hu5.block _ (lt_of_block hX6)).trans hX6
            clear x50 x51 x60 x61
            obtain ⟨x50, x51⟩ := two_cells hX5
            obtain ⟨x60, x61⟩ := two_cells hX6
            refine hK _ _ ?_
            clear hK K
            refine wpAny_ready (rs := [5, 7]) (by kernel_rfl) (by simp) ?_
            refine AllReady.cons (by simp only [List.getElem?_toArray, List.getElem?_cons_succ, List.getElem?_cons_zero]; rfl) (fun K hK => ?_) ?_
            · go_simp
              refine hK _ _ ?_
              clear hK K
              refine wpAny_ready (rs := [7]) (by kernel_rfl) (by simp) ?_
              refine AllReady.cons (by simp only [List.getElem?_toArray, List.getElem?_cons_succ, List.getElem?_cons_zero]; rfl) (fun K hK => ?_) AllReady.nil
              · go_simp
                refine hK _ _ ?_
                clear hK K
                refine wpAny_ready (rs := [12]) (by kernel_rfl) (by simp) (AllReady.cons (by simp only [List.getElem?_toArray, List.getElem?_cons_succ, List.getElem?_cons_zero]; rfl) (fun K hK => ?_) AllReady.nil)
                go_simp
                refine hK _ _ ?_
                clear hK K
                refine wpAny_ready (rs := [13]) (by kernel_rfl) (by simp) (AllReady.cons (by simp only [List.getElem?_toArray, List.getElem?_cons_succ, List.getElem?_cons_zero]; rfl) (fun K hK => ?_) AllReady.nil)
                go_simp
                refine (entry_must hM5.out bx1 bx2 bx3 bx4 hI1.out hI2.out hI3.out hI4.out hbd.ll).mono ?_
                rintro e uz ⟨⟨r, rfl⟩, lstz, hRMz, hbz, hkz⟩
                refine hK _ _ ?_
                clear hK K
                refine wpAny_done (by kernel_rfl) ?_ _
                clear x50 x51 x60 x61 hX5 hX6
                go_wp2
                go_ret
                refine ⟨rfl, lstz, _, _, hRMz, ?_, ?_⟩
                · exact (hBx5.out.alloc (Nat.le_trans hBw hBx5.out.size) _).trans hbz
                · exact (hKx5.out.alloc _).trans hkz
            refine AllReady.cons (by simp only [List.getElem?_toArray, List.getElem?_cons_succ, List.getElem?_cons_zero]; rfl) (fun K hK => ?_) AllReady.nil
            · go_simp
              refine hK _ _ ?_
              clear hK K
              refine wpAny_ready (rs := [5]) (by kernel_rfl) (by simp) ?_
              refine AllReady.cons (by simp only [List.getElem?_toArray, List.getElem?_cons_succ, List.getElem?_cons_zero]; rfl) (fun K hK => ?_) AllReady.nil
              · go_simp
                refine hK _ _ ?_
                clear hK K
                refine wpAny_ready (rs := [12]) (by kernel_rfl) (by simp) (AllReady.cons (by simp only [List.getElem?_toArray, List.getElem?_cons_succ, List.getElem?_cons_zero]; rfl) (fun K hK => ?_) AllReady.nil)
                go_simp
                refine hK _ _ ?_
                clear hK K
                refine wpAny_ready (rs := [13]) (by kernel_rfl) (by simp) (AllReady.cons (by simp only [List.getElem?_toArray, List.getElem?_cons_succ, List.getElem?_cons_zero]; rfl) (fun K hK => ?_) AllReady.nil)
                go_simp
                refine (entry_must hM5.out bx1 bx2 bx3 bx4 hI1.out hI2.out hI3.out hI4.out hbd.ll).mono ?_
                rintro e uz ⟨⟨r, rfl⟩, lstz, hRMz, hbz, hkz⟩
                refine hK _ _ ?_
                clear hK K
                refine wpAny_done (by kernel_rfl) ?_ _
                clear x50 x51 x60 x61 hX5 hX6
                go_wp2
                go_ret
                refine ⟨rfl, lstz, _, _, hRMz, ?_, ?_⟩
                · exact (hBx5.out.alloc (Nat.le_trans hBw hBx5.out.size) _).trans hbz
                · exact (hKx5.out.alloc _).trans hkz
      refine AllReady.cons (by simp only [List.getElem?_toArray, List.getElem?_cons_succ, List.getElem?_cons_zero]; rfl) (fun K hK => ?_) AllReady.nil
      · go_simp
        refine hK _ _ ?_
        clear hK K
        refine wpAny_ready (rs := [5, 6]) (by kernel_rfl) (by simp) ?_
        refine AllReady.cons (by simp only [List.getElem?_toArray, List.getElem?_cons_succ, List.getElem?_cons_zero]; rfl) (fun K hK => ?_) ?_
        · go_simp
          refine hK _ _ ?_
          clear hK K
          refine wpAny_ready (rs := [6]) (by kernel_rfl) (by simp) ?_
          refine AllReady.cons (by simp only [List.getElem?_toArray, List.getElem?_cons_succ, List.getElem?_cons_zero]; rfl) (fun K hK => ?_) AllReady.nil
          · go_simp
            refine (Word_any wNode _).mono ?_
            rintro e u3 ⟨bx3, rfl, hx3, hu3⟩
            have hM3 := hide (hM2.out.new hu3)
            have hI1 := hide (hI1.out.kept (KT.new [] hu3) (by simp))
            have hI2 := hide (hI2.out.kept (KT.new [] hu3) (by simp))
            have hI3 : Hid (IsIt u3 R (.word wNode) ⟨8, .func 45, #[], #[.pointer (some ⟨bx3, 0, none⟩)]⟩) := ⟨bx3, rfl, hx3⟩
            have hBx3 := hide (below_ext hBx2.out hBw hu3)
            have hKx3 := hide (hKx2.out.trans (KT.new TS hu3))
            have hX5 := (hu3.block _ (lt_of_block hX5)).trans hX5
            have hX6 := (hu3.block _ (lt_of_block hX6)).trans hX6
            clear x50 x51 x60 x61
            obtain ⟨x50, x51⟩ := two_cells hX5
            obtain ⟨x60, x61⟩ := two_cells hX6
            refine hK _ _ ?_
            clear hK K
            refine wpAny_ready (rs := [8]) (by kernel_rfl) (by simp) ?_
            refine AllReady.cons (by simp only [List.getElem?_toArray, List.getElem?_cons_succ, List.getElem?_cons_zero]; rfl) (fun K hK => ?_) AllReady.nil
            · go_simp
              refine (Word_any wClose _).mono ?_
              rintro e u4 ⟨bx4, rfl, hx4, hu4⟩
              have hM4 := hide (hM3.out.new hu4)
              have hI1 := hide (hI1.out.kept (KT.new [] hu4) (by simp))
              have hI2 := hide (hI2.out.kept (KT.new [] hu4) (by simp))
              have hI3 := hide (hI3.out.kept (KT.new [] hu4) (by simp))
              have hI4 : Hid (IsIt u4 R (.word wClose) ⟨8, .func 45, #[], #[.pointer (some ⟨bx4, 0, none⟩)]⟩) := ⟨bx4, rfl, hx4⟩
              have hBx4 := hide (below_ext hBx3.out hBw hu4)
              have hKx4 := hide (hKx3.out.trans (KT.new TS hu4))
              have hX5 := (hu4.block _ (lt_of_block hX5)).trans hX5
              have hX6 := (hu4.block _ (lt_of_block hX6)).trans hX6
              clear x50 x51 x60 x61
              obtain ⟨x50, x51⟩ := two_cells hX5
              obtain ⟨x60, x61⟩ := two_cells hX6
              refine hK _ _ ?_
              clear hK K
              refine wpAny_ready (rs := [11]) (by kernel_rfl) (by simp) ?_
              refine AllReady.cons (by simp only [List.getElem?_toArray, List.getElem?_cons_succ, List.getElem?_cons_zero]; rfl) (fun K hK => ?_) AllReady.nil
              · go_simp
                refine (Words_any (.func 56) _ _ _).mono ?_
                rintro e u5 ⟨rfl, hu5⟩
                have hM5 := hide (hM4.out.new hu5)
                have hI1 := hide (hI1.out.kept (KT.new [] hu5) (by simp))
                have hI2 := hide (hI2.out.kept (KT.new [] hu5) (by simp))
                have hI3 := hide (hI3.out.kept (KT.new [] hu5) (by simp))
                have hI4 := hide (hI4.out.kept (KT.new [] hu5) (by simp))
                have hI5 : Hid (IsIt u5 R (.inDir) ⟨8, .func 56, #[.pointer (some ⟨R, 0, none⟩)], #[]⟩) := rfl
                have hBx5 := hide (below_ext hBx4.out hBw hu5)
                have hKx5 := hide (hKx4.out.trans (KT.new TS hu5))
                have hX5 := (hu5.block _ (lt_of_block hX5)).trans hX5
                have hX6 := (hu5.block _ (lt_of_block hX6)).trans hX6
                clear x50 x51 x60 x61
                obtain ⟨x50, x51⟩ := two_cells hX5
                obtain ⟨x60, x61⟩ := two_cells hX6
                refine hK _ _ ?_
                clear hK K
                refine wpAny_ready (rs := [12]) (by kernel_rfl) (by simp) (AllReady.cons (by simp only [List.getElem?_toArray, List.getElem?_cons_succ, List.getElem?_cons_zero]; rfl) (fun K hK => ?_) AllReady.nil)
                go_simp
                refine hK _ _ ?_
                clear hK K
                refine wpAny_ready (rs := [13]) (by kernel_rfl) (by simp) (AllReady.cons (by simp only [List.getElem?_toArray, List.getElem?_cons_succ, List.getElem?_cons_zero]; rfl) (fun K hK => ?_) AllReady.nil)
                go_simp
                refine (entry_must hM5.out bx1 bx2 bx3 bx4 hI1.out hI2.out hI3.out hI4.out hbd.ll).mono ?_
                rintro e uz ⟨⟨r, rfl⟩, lstz, hRMz, hbz, hkz⟩
                refine hK _ _ ?_
                clear hK K
                refine wpAny_done (by kernel_rfl) ?_ _
                clear x50 x51 x60 x61 hX5 hX6
                go_wp2
                go_ret
                refine ⟨rfl, lstz, _, _, hRMz, ?_, ?_⟩
                · exact (hBx5.out.alloc (Nat.le_trans hBw hBx5.out.size) _).trans hbz
                · exact (hKx5.out.alloc _).trans hkz
        refine AllReady.cons (by simp only [List.getElem?_toArray, List.getElem?_cons_succ, List.getElem?_cons_zero]; rfl) (fun K hK => ?_) AllReady.nil
        · go_simp
          refine (Word_any wNode _).mono ?_
          rintro e u3 ⟨bx3, rfl, hx3, hu3⟩
          have hM3 := hide (hM2.out.new hu3)
          have hI1 := hide (hI1.out.kept (KT.new [] hu3) (by simp))
          have hI2 := hide (hI2.out.kept (KT.new [] hu3) (by simp))
          have hI3 : Hid (IsIt u3 R (.word wNode) ⟨8, .func 45, #[], #[.pointer (some ⟨bx3, 0, none⟩)]⟩) := ⟨bx3, rfl, hx3⟩
          have hBx3 := hide (below_ext hBx2.out hBw hu3)
          have hKx3 := hide (hKx2.out.trans (KT.new TS hu3))
          have hX5 := (hu3.block _ (lt_of_block hX5)).trans hX5
          have hX6 := (hu3.block _ (lt_of_block hX6)).trans hX6
          clear x50 x51 x60 x61
          obtain ⟨x50, x51⟩ := two_cells hX5
          obtain ⟨x60, x61⟩ := two_cells hX6
          refine hK _ _ ?_
          clear hK K
          refine wpAny_ready (rs := [5, 8]) (by kernel_rfl) (by simp) ?_
          refine AllReady.cons (by simp only [List.getElem?_toArray, List.getElem?_cons_succ, List.getElem?_cons_zero]; rfl) (fun K hK => ?_) ?_
          · go_simp
            refine hK _ _ ?_
            clear hK K
            refine wpAny_ready (rs := [8]) (by kernel_rfl) (by simp) ?_
            refine AllReady.cons (by simp only [List.getElem?_toArray, List.getElem?_cons_succ, List.getElem?_cons_zero]; rfl) (fun K hK => ?_) AllReady.nil
            · go_simp
              refine (Word_any wClose _).mono ?_
              rintro e u4 ⟨bx4, rfl, hx4, hu4⟩
              have hM4 := hide (hM3.out.new hu4)
              have hI1 := hide (hI1.out.kept (KT.new [] hu4) (by simp))
              have hI2 := hide (hI2.out.kept (KT.new [] hu4) (by simp))
              have hI3 := hide (hI3.out.kept (KT.new [] hu4) (by simp))
              have hI4 : Hid (IsIt u4 R (.word wClose) ⟨8, .func 45, #[], #[.pointer (some ⟨bx4, 0, none⟩)]⟩) := ⟨bx4, rfl, hx4⟩
              have hBx4 := hide (below_ext hBx3.out hBw hu4)
              have hKx4 := hide (hKx3.out.trans (KT.new TS hu4))
              have hX5 := (hu4.block _ (lt_of_block hX5)).trans hX5
              have hX6 := (hu4.block _ (lt_of_block hX6)).trans hX6
              clear x50 x51 x60 x61
              obtain ⟨x50, x51⟩ := two_cells hX5
              obtain ⟨x60, x61⟩ := two_cells hX6
              refine hK _ _ ?_
              clear hK K
              refine wpAny_ready (rs := [11]) (by kernel_rfl) (by simp) ?_
              refine AllReady.cons (by simp only [List.getElem?_toArray, List.getElem?_cons_succ, List.getElem?_cons_zero]; rfl) (fun K hK => ?_) AllReady.nil
              · go_simp
                refine (Words_any (.func 56) _ _ _).mono ?_
                rintro e u5 ⟨rfl, hu5⟩
                have hM5 := hide (hM4.out.new hu5)
                have hI1 := hide (hI1.out.kept (KT.new [] hu5) (by simp))
                have hI2 := hide (hI2.out.kept (KT.new [] hu5) (by simp))
                have hI3 := hide (hI3.out.kept (KT.new [] hu5) (by simp))
                have hI4 := hide (hI4.out.kept (KT.new [] hu5) (by simp))
                have hI5 : Hid (IsIt u5 R (.inDir) ⟨8, .func 56, #[.pointer (some ⟨R, 0, none⟩)], #[]⟩) := rfl
                have hBx5 := hide (below_ext hBx4.out hBw hu5)
                have hKx5 := hide (hKx4.out.trans (KT.new TS hu5))
                have hX5 := (hu5.block _ (lt_of_block hX5)).trans hX5
                have hX6 := (hu5.block _ (lt_of_block hX6)).trans hX6
                clear x50 x51 x60 x61
                obtain ⟨x50, x51⟩ := two_cells hX5
                obtain ⟨x60, x61⟩ := two_cells hX6
                refine hK _ _ ?_
                clear hK K
                refine wpAny_ready (rs := [12]) (by kernel_rfl) (by simp) (AllReady.cons (by simp only [List.getElem?_toArray, List.getElem?_cons_succ, List.getElem?_cons_zero]; rfl) (fun K hK => ?_) AllReady.nil)
                go_simp
                refine hK _ _ ?_
                clear hK K
                refine wpAny_ready (rs := [13]) (by kernel_rfl) (by simp) (AllReady.cons (by simp only [List.getElem?_toArray, List.getElem?_cons_succ, List.getElem?_cons_zero]; rfl) (fun K hK => ?_) AllReady.nil)
                go_simp
                refine (entry_must hM5.out bx1 bx2 bx3 bx4 hI1.out hI2.out hI3.out hI4.out hbd.ll).mono ?_
                rintro e uz ⟨⟨r, rfl⟩, lstz, hRMz, hbz, hkz⟩
                refine hK _ _ ?_
                clear hK K
                refine wpAny_done (by kernel_rfl) ?_ _
                clear x50 x51 x60 x61 hX5 hX6
                go_wp2
                go_ret
                refine ⟨rfl, lstz, _, _, hRMz, ?_, ?_⟩
                · exact (hBx5.out.alloc (Nat.le_trans hBw hBx5.out.size) _).trans hbz
                · exact (hKx5.out.alloc _).trans hkz
          refine AllReady.cons (by simp only [List.getElem?_toArray, List.getElem?_cons_succ, List.getElem?_cons_zero]; rfl) (fun K hK => ?_) AllReady.nil
          · go_simp
            refine (Word_any wClose _).mono ?_
            rintro e u4 ⟨bx4, rfl, hx4, hu4⟩
            have hM4 := hide (hM3.out.new hu4)
            have hI1 := hide (hI1.out.kept (KT.new [] hu4) (by simp))
            have hI2 := hide (hI2.out.kept (KT.new [] hu4) (by simp))
            have hI3 := hide (hI3.out.kept (KT.new [] hu4) (by simp))
            have hI4 : Hid (IsIt u4 R (.word wClose) ⟨8, .func 45, #[], #[.pointer (some ⟨bx4, 0, none⟩)]⟩) := ⟨bx4, rfl, hx4⟩
            have hBx4 := hide (below_ext hBx3.out hBw hu4)
            have hKx4 := hide (hKx3.out.trans (KT.new TS hu4))
            have hX5 := (hu4.block _ (lt_of_block hX5)).trans hX5
            have hX6 := (hu4.block _ (lt_of_block hX6)).trans hX6
            clear x50 x51 x60 x61
            obtain ⟨x50, x51⟩ := two_cells hX5
            obtain ⟨x60, x61⟩ := two_cells hX6
            refine hK _ _ ?_
            clear hK K
            refine wpAny_ready (rs := [5, 11]) (by kernel_rfl) (by simp) ?_
            refine AllReady.cons (by simp only [List.getElem?_toArray, List.getElem?_cons_succ, List.getElem?_cons_zero]; rfl) (fun K hK => ?_) ?_
            · go_simp
              refine hK _ _ ?_
              clear hK K
              refine wpAny_ready (rs := [11]) (by kernel_rfl) (by simp) ?_
              refine AllReady.cons (by simp only [List.getElem?_toArray, List.getElem?_cons_succ, List.getElem?_cons_zero]; rfl) (fun K hK => ?_) AllReady.nil
              · go_simp
                refine (Words_any (.func 56) _ _ _).mono ?_
                rintro e u5 ⟨rfl, hu5⟩
                have hM5 := hide (hM4.out.new hu5)
                have hI1 := hide (hI1.out.kept (KT.new [] hu5) (by simp))
                have hI2 := hide (hI2.out.kept (KT.new [] hu5) (by simp))
                have hI3 := hide (hI3.out.kept (KT.new [] hu5) (by simp))
                have hI4 := hide (hI4.out.kept (KT.new [] hu5) (by simp))
                have hI5 : Hid (IsIt u5 R (.inDir) ⟨8, .func 56, #[.pointer (some ⟨R, 0, none⟩)], #[]⟩) := rfl
                have hBx5 := hide (below_ext hBx4.out hBw hu5)
                have hKx5 := hide (hKx4.out.trans (KT.new TS hu5))
                have hX5 := (hu5.block _ (lt_of_block hX5)).trans hX5
                have hX6 := (hu5.block _ (lt_of_block hX6)).trans hX6
                clear x50 x51 x60 x61
                obtain ⟨x50, x51⟩ := two_cells hX5
                obtain ⟨x60, x61⟩ := two_cells hX6
                refine hK _ _ ?_
                clear hK K
                refine wpAny_ready (rs := [12]) (by kernel_rfl) (by simp) (AllReady.cons (by simp only [List.getElem?_toArray, List.getElem?_cons_succ, List.getElem?_cons_zero]; rfl) (fun K hK => ?_) AllReady.nil)
                go_simp
                refine hK _ _ ?_
                clear hK K
                refine wpAny_ready (rs := [13]) (by kernel_rfl) (by simp) (AllReady.cons (by simp only [List.getElem?_toArray, List.getElem?_cons_succ, List.getElem?_cons_zero]; rfl) (fun K hK => ?_) AllReady.nil)
                go_simp
                refine (entry_must hM5.out bx1 bx2 bx3 bx4 hI1.out hI2.out hI3.out hI4.out hbd.ll).mono ?_
                rintro e uz ⟨⟨r, rfl⟩, lstz, hRMz, hbz, hkz⟩
                refine hK _ _ ?_
                clear hK K
                refine wpAny_done (by kernel_rfl) ?_ _
                clear x50 x51 x60 x61 hX5 hX6
                go_wp2
                go_ret
                refine ⟨rfl, lstz, _, _, hRMz, ?_, ?_⟩
                · exact (hBx5.out.alloc (Nat.le_trans hBw hBx5.out.size) _).trans hbz
                · exact (hKx5.out.alloc _).trans hkz
            refine AllReady.cons (by simp only [List.getElem?_toArray, List.getElem?_cons_succ, List.getElem?_cons_zero]; rfl) (fun K hK => ?_) AllReady.nil
            · go_simp
              refine (Words_any (.func 56) _ _ _).mono ?_
              rintro e u5 ⟨rfl, hu5⟩
              have hM5 := hide (hM4.out.new hu5)
              have hI1 := hide (hI1.out.kept (KT.new [] hu5) (by simp))
              have hI2 := hide (hI2.out.kept (KT.new [] hu5) (by simp))
              have hI3 := hide (hI3.out.kept (KT.new [] hu5) (by simp))
              have hI4 := hide (hI4.out.kept (KT.new [] hu5) (by simp))
              have hI5 : Hid (IsIt u5 R (.inDir) ⟨8, .func 56, #[.pointer (some ⟨R, 0, none⟩)], #[]⟩) := rfl
              have hBx5 := hide (below_ext hBx4.out hBw hu5)
              have hKx5 := hide (hKx4.out.trans (KT.new TS hu5))
              have hX5 := (hu5.block _ (lt_of_block hX5)).trans hX5
              have hX6 := (hu5.block _ (lt_of_block hX6)).trans hX6
              clear x50 x51 x60 x61
              obtain ⟨x50, x51⟩ := two_cells hX5
              obtain ⟨x60, x61⟩ := two_cells hX6
              refine hK _ _ ?_
              clear hK K
              refine wpAny_ready (rs := [5]) (by kernel_rfl) (by simp) ?_
              refine AllReady.cons (by simp only [List.getElem?_toArray, List.getElem?_cons_succ, List.getElem?_cons_zero]; rfl) (fun K hK => ?_) AllReady.nil
              · go_simp
                refine hK _ _ ?_
                clear hK K
                refine wpAny_ready (rs := [12]) (by kernel_rfl) (by simp) (AllReady.cons (by simp only [List.getElem?_toArray, List.getElem?_cons_succ, List.getElem?_cons_zero]; rfl) (fun K hK => ?_) AllReady.nil)
                go_simp
                refine hK _ _ ?_
                clear hK K
                refine wpAny_ready (rs := [13]) (by kernel_rfl) (by simp) (AllReady.cons (by simp only [List.getElem?_toArray, List.getElem?_cons_succ, List.getElem?_cons_zero]; rfl) (fun K hK => ?_) AllReady.nil)
                go_simp
                refine (entry_must hM5.out bx1 bx2 bx3 bx4 hI1.out hI2.out hI3.out hI4.out hbd.ll).mono ?_
                rintro e uz ⟨⟨r, rfl⟩, lstz, hRMz, hbz, hkz⟩
                refine hK _ _ ?_
                clear hK K
                refine wpAny_done (by kernel_rfl) ?_ _
                clear x50 x51 x60 x61 hX5 hX6
                go_wp2
                go_ret
                refine ⟨rfl, lstz, _, _, hRMz, ?_, ?_⟩
                · exact (hBx5.out.alloc (Nat.le_trans hBw hBx5.out.size) _).trans hbz
                · exact (hKx5.out.alloc _).trans hkz
    refine AllReady.cons (by simp only [List.getElem?_toArray, List.getElem?_cons_succ, List.getElem?_cons_zero]; rfl) (fun K hK => ?_) ?_
    · go_simp
      refine hK _ _ ?_
      clear hK K
      refine wpAny_ready (rs := [4, 7]) (by kernel_rfl) (by simp) ?_
      refine AllReady.cons (by simp only [List.getElem?_toArray, List.getElem?_cons_succ, List.getElem?_cons_zero]; rfl) (fun K hK => ?_) ?_
      · go_simp
        refine (Word_any wName _).mono ?_
        rintro e u2 ⟨bx2, rfl, hx2, hu2⟩
        have hM2 := hide (hM1.out.new hu2)
        have hI1 := hide (hI1.out.kept (KT.new [] hu2) (by simp))
        have hI2 : Hid (IsIt u2 R (.word wName) ⟨8, .func 45, #[], #[.pointer (some ⟨bx2, 0, none⟩)]⟩) := ⟨bx2, rfl, hx2⟩
        have hBx2 := hide (below_ext hBx1.out hBw hu2)
        have hKx2 := hide (hKx1.out.trans (KT.new TS hu2))
        have hX5 := (hu2.block _ (lt_of_block hX5)).trans hX5
        have hX6 := (hu2.block _ (lt_of_block hX6)).trans hX6
        clear x50 x51 x60 x61
        obtain ⟨x50, x51⟩ := two_cells hX5
        obtain ⟨x60, x61⟩ := two_cells hX6
        refine hK _ _ ?_
        clear hK K
        refine wpAny_ready (rs := [6, 7]) (by kernel_rfl) (by simp) ?_
        refine AllReady.cons (by simp only [List.getElem?_toArray, List.getElem?_cons_succ, List.getElem?_cons_zero]; rfl) (fun K hK => ?_) ?_
        · go_simp
          refine (Word_any wNode _).mono ?_
          rintro e u3 ⟨bx3, rfl, hx3, hu3⟩
          have hM3 := hide (hM2.out.new hu3)
          have hI1 := hide (hI1.out.kept (KT.new [] hu3) (by simp))
          have hI2 := hide (hI2.out.kept (KT.new [] hu3) (by simp))
          have hI3 : Hid (IsIt u3 R (.word wNode) ⟨8, .func 45, #[], #[.pointer (some ⟨bx3, 0, none⟩)]⟩) := ⟨bx3, rfl, hx3⟩
          have hBx3 := hide (below_ext hBx2.out hBw hu3)
          have hKx3 := hide (hKx2.out.trans (KT.new TS hu3))
          have hX5 := (hu3.block _ (lt_of_block hX5)).trans hX5
          have hX6 := (hu3.block _ (lt_of_block hX6)).trans hX6
          clear x50 x51 x60 x61
          obtain ⟨x50, x51⟩ := two_cells hX5
          obtain ⟨x60, x61⟩ := two_cells hX6
          refine hK _ _ ?_
          clear hK K
          refine wpAny_ready (rs := [7, 8]) (by kernel_rfl) (by simp) ?_
          refine AllReady.cons (by simp only [List.getElem?_toArray, List.getElem?_cons_succ, List.getElem?_cons_zero]; rfl) (fun K hK => ?_) ?_
          · go_simp
            refine hK _ _ ?_
            clear hK K
            refine wpAny_ready (rs := [8]) (by kernel_rfl) (by simp) ?_
            refine AllReady.cons (by simp only [List.getElem?_toArray, List.getElem?_cons_succ, List.getElem?_cons_zero]; rfl) (fun K hK => ?_) AllReady.nil
            · go_simp
              refine (Word_any wClose _).mono ?_
              rintro e u4 ⟨bx4, rfl, hx4, hu4⟩
              have hM4 := hide (hM3.out.new hu4)
              have hI1 := hide (hI1.out.kept (KT.new [] hu4) (by simp))
              have hI2 := hide (hI2.out.kept (KT.new [] hu4) (by simp))
              have hI3 := hide (hI3.out.kept (KT.new [] hu4) (by simp))
              have hI4 : Hid (IsIt u4 R (.word wClose) ⟨8, .func 45, #[], #[.pointer (some ⟨bx4, 0, none⟩)]⟩) := ⟨bx4, rfl, hx4⟩
              have hBx4 := hide (below_ext hBx3.out hBw hu4)
              have hKx4 := hide (hKx3.out.trans (KT.new TS hu4))
              have hX5 := (hu4.block _ (lt_of_block hX5)).trans hX5
              have hX6 := (hu4.block _ (lt_of_block hX6)).trans hX6
              clear x50 x51 x60 x61
              obtain ⟨x50, x51⟩ := two_cells hX5
              obtain ⟨x60, x61⟩ := two_cells hX6
              refine hK _ _ ?_
              clear hK K
              refine wpAny_ready (rs := [11]) (by kernel_rfl) (by simp) ?_
              refine AllReady.cons (by simp only [List.getElem?_toArray, List.getElem?_cons_succ, List.getElem?_cons_zero]; rfl) (fun K hK => ?_) AllReady.nil
              · go_simp
                refine (Words_any (.func 56) _ _ _).mono ?_
                rintro e u5 ⟨rfl, hu5⟩
                have hM5 := hide (hM4.out.new hu5)
                have hI1 := hide (hI1.out.kept (KT.new [] hu5) (by simp))
                have hI2 := hide (hI2.out.kept (KT.new [] hu5) (by simp))
                have hI3 := hide (hI3.out.kept (KT.new [] hu5) (by simp))
                have hI4 := hide (hI4.out.kept (KT.new [] hu5) (by simp))
                have hI5 : Hid (IsIt u5 R (.inDir) ⟨8, .func 56, #[.pointer (some ⟨R, 0, none⟩)], #[]⟩) := rfl
                have hBx5 := hide (below_ext hBx4.out hBw hu5)
                have hKx5 := hide (hKx4.out.trans (KT.new TS hu5))
                have hX5 := (hu5.block _ (lt_of_block hX5)).trans hX5
                have hX6 := (hu5.block _ (lt_of_block hX6)).trans hX6
                clear x50 x51 x60 x61
                obtain ⟨x50, x51⟩ := two_cells hX5
                obtain ⟨x60, x61⟩ := two_cells hX6
                refine hK _ _ ?_
                clear hK K
                refine wpAny_ready (rs := [12]) (by kernel_rfl) (by simp) (AllReady.cons (by simp only [List.getElem?_toArray, List.getElem?_cons_succ, List.getElem?_cons_zero]; rfl) (fun K hK => ?_) AllReady.nil)
                go_simp
                refine hK _ _ ?_
                clear hK K
                refine wpAny_ready (rs := [13]) (by kernel_rfl) (by simp) (AllReady.cons (by simp only [List.getElem?_toArray, List.getElem?_cons_succ, List.getElem?_cons_zero]; rfl) (fun K hK => ?_) AllReady.nil)
                go_simp
                refine (entry_must hM5.out bx1 bx2 bx3 bx4 hI1.out hI2.out hI3.out hI4.out hbd.ll).mono ?_
                rintro e uz ⟨⟨r, rfl⟩, lstz, hRMz, hbz, hkz⟩
                refine hK _ _ ?_
                clear hK K
                refine wpAny_done (by kernel_rfl) ?_ _
                clear x50 x51 x60 x61 hX5 hX6
                go_wp2
                go_ret
                refine ⟨rfl, lstz, _, _, hRMz, ?_, ?_⟩
                · exact (hBx5.out.alloc (Nat.le_trans hBw hBx5.out.size) _).trans hbz
                · exact (hKx5.out.alloc _).trans hkz
          refine AllReady.cons (by simp only [List.getElem?_toArray, List.getElem?_cons_succ, List.getElem?_cons_zero]; rfl) (fun K hK => ?_) AllReady.nil
          · go_simp
            refine (Word_any wClose _).mono ?_
            rintro e u4 ⟨bx4, rfl, hx4, hu4⟩
            have hM4 := hide (hM3.out.new hu4)
            have hI1 := hide (hI1.out.kept (KT.new [] hu4) (by simp))
            have hI2 := hide (hI2.out.kept (KT.new [] hu4) (by simp))
            have hI3 := hide (hI3.out.kept (KT.new [] hu4) (by simp))
            have hI4 : Hid (IsIt u4 R (.word wClose) ⟨8, .func 45, #[], #[.pointer (some ⟨bx4, 0, none⟩)]⟩) := ⟨bx4, rfl, hx4⟩
            have hBx4 := hide (below_ext hBx3.out hBw hu4)
            have hKx4 := hide (hKx3.out.trans (KT.new TS hu4))
            have hX5 := (hu4.block _ (lt_of_block hX5)).trans hX5
            have hX6 := (hu4.block _ (lt_of_block hX6)).trans hX6
            clear x50 x51 x60 x61
            obtain ⟨x50, x51⟩ := two_cells hX5
            obtain ⟨x60, x61⟩ := two_cells hX6
            refine hK _ _ ?_
            clear hK K
            refine wpAny_ready (rs := [7, 11]) (by kernel_rfl) (by simp) ?_
            refine AllReady.cons (by simp only [List.getElem?_toArray, List.getElem?_cons_succ, List.getElem?_cons_zero]; rfl) (fun K hK => ?_) ?_
            · go_simp
              refine hK _ _ ?_
              clear hK K
              refine wpAny_ready (rs := [11]) (by kernel_rfl) (by simp) ?_
              refine AllReady.cons (by simp only [List.getElem?_toArray, List.getElem?_cons_succ, List.getElem?_cons_zero]; rfl) (fun K hK => ?_) AllReady.nil
              · go_simp
                refine (Words_any (.func 56) _ _ _).mono ?_
                rintro e u5 ⟨rfl, hu5⟩
                have hM5 := hide (hM4.out.new hu5)
                have hI1 := hide (hI1.out.kept (KT.new [] hu5) (by simp))
                have hI2 := hide (hI2.out.kept (KT.new [] hu5) (by simp))
                have hI3 := hide (hI3.out.kept (KT.new [] hu5) (by simp))
                have hI4 := hide (hI4.out.kept (KT.new [] hu5) (by simp))
                have hI5 : Hid (IsIt u5 R (.inDir) ⟨8, .func 56, #[.pointer (some ⟨R, 0, none⟩)], #[]⟩) := rfl
                have hBx5 := hide (below_ext hBx4.out hBw hu5)
                have hKx5 := hide (hKx4.out.trans (KT.new TS hu5))
                have hX5 := (hu5.block _ (lt_of_block hX5)).trans hX5
                have hX6 := (hu5.block _ (lt_of_block hX6)).trans hX6
                clear x50 x51 x60 x61
                obtain ⟨x50, x51⟩ := two_cells hX5
                obtain ⟨x60, x61⟩ := two_cells hX6
                refine hK _ _ ?_
                clear hK K
                refine wpAny_ready (rs := [12]) (by kernel_rfl) (by simp) (AllReady.cons (by simp only [List.getElem?_toArray, List.getElem?_cons_succ, List.getElem?_cons_zero]; rfl) (fun K hK => ?_) AllReady.nil)
                go_simp
                refine hK _ _ ?_
                clear hK K
                refine wpAny_ready (rs := [13]) (by kernel_rfl) (by simp) (AllReady.cons (by simp only [List.getElem?_toArray, List.getElem?_cons_succ, List.getElem?_cons_zero]; rfl) (fun K hK => ?_) AllReady.nil)
                go_simp
                refine (entry_must hM5.out bx1 bx2 bx3 bx4 hI1.out hI2.out hI3.out hI4.out hbd.ll).mono ?_
                rintro e uz ⟨⟨r, rfl⟩, lstz, hRMz, hbz, hkz⟩
                refine hK _ _ ?_
                clear hK K
                refine wpAny_done (by kernel_rfl) ?_ _
                clear x50 x51 x60 x61 hX5 hX6
                go_wp2
                go_ret
                refine ⟨rfl, lstz, _, _, hRMz, ?_, ?_⟩
                · exact (hBx5.out.alloc (Nat.le_trans hBw hBx5.out.size) _).trans hbz
                · exact (hKx5.out.alloc _).trans hkz
            refine AllReady.cons (by simp only [List.getElem?_toArray, List.getElem?_cons_succ, List.getElem?_cons_zero]; rfl) (fun K hK => ?_) AllReady.nil
            · go_simp
              refine (Words_any (.func 56) _ _ _).mono ?_
              rintro e u5 ⟨rfl, hu5⟩
              have hM5 := hide (hM4.out.new hu5)
              have hI1 := hide (hI1.out.kept (KT.new [] hu5) (by simp))
              have hI2 := hide (hI2.out.kept (KT.new [] hu5) (by simp))
              have hI3 := hide (hI3.out.kept (KT.new [] hu5) (by simp))
              have hI4 := hide (hI4.out.kept (KT.new [] hu5) (by simp))
              have hI5 : Hid (IsIt u5 R (.inDir) ⟨8, .func 56, #[.pointer (some ⟨R, 0, none⟩)], #[]⟩) := rfl
              have hBx5 := hide (below_ext hBx4.out hBw hu5)
              have hKx5 := hide (hKx4.out.trans (KT.new TS hu5))
              have hX5 := (hu5.block _ (lt_of_block hX5)).trans hX5
              have hX6 := (hu5.block _ (lt_of_block hX6)).trans hX6
              clear x50 x51 x60 x61
              obtain ⟨x50, x51⟩ := two_cells hX5
              obtain ⟨x60, x61⟩ := two_cells hX6
              refine hK _ _ ?_
              clear hK K
              refine wpAny_ready (rs := [7]) (by kernel_rfl) (by simp) ?_
              refine AllReady.cons (by simp only [List.getElem?_toArray, List.getElem?_cons_succ, List.getElem?_cons_zero]; rfl) (fun K hK => ?_) AllReady.nil
              · go_simp
                refine hK _ _ ?_
                clear hK K
                refine wpAny_ready (rs := [12]) (by kernel_rfl) (by simp) (AllReady.cons (by simp only [List.getElem?_toArray, List.getElem?_cons_succ, List.getElem?_cons_zero]; rfl) (fun K hK => ?_) AllReady.nil)
                go_simp
                refine hK _ _ ?_
                clear hK K
                refine wpAny_ready (rs := [13]) (by kernel_rfl) (by simp) (AllReady.cons (by simp only [List.getElem?_toArray, List.getElem?_cons_succ, List.getElem?_cons_zero]; rfl) (fun K hK => ?_) AllReady.nil)
                go_simp
                refine (entry_must hM5.out bx1 bx2 bx3 bx4 hI1.out hI2.out hI3.out hI4.out hbd.ll).mono ?_
                rintro e uz ⟨⟨r, rfl⟩, lstz, hRMz, hbz, hkz⟩
                refine hK _ _ ?_
                clear hK K
                refine wpAny_done (by kernel_rfl) ?_ _
                clear x50 x51 x60 x61 hX5 hX6
                go_wp2
                go_ret
                refine ⟨rfl, lstz, _, _, hRMz, ?_, ?_⟩
                · exact (hBx5.out.alloc (Nat.le_trans hBw hBx5.out.size) _).trans hbz
                · exact (hKx5.out.alloc _).trans hkz
        refine AllReady.cons (by simp only [List.getElem?_toArray, List.getElem?_cons_succ, List.getElem?_cons_zero]; rfl) (fun K hK => ?_) AllReady.nil
        · go_simp
          refine hK _ _ ?_
          clear hK K
          refine wpAny_ready (rs := [6]) (by kernel_rfl) (by simp) ?_
          refine AllReady.cons (by simp only [List.getElem?_toArray, List.getElem?_cons_succ, List.getElem?_cons_zero]; rfl) (fun K hK => ?_) AllReady.nil
          · go_simp
            refine (Word_any wNode _).mono ?_
            rintro e u3 ⟨bx3, rfl, hx3, hu3⟩
            have hM3 := hide (hM2.out.new hu3)
            have hI1 := hide (hI1.out.kept (KT.new [] hu3) (by simp))
            have hI2 := hide (hI2.out.kept (KT.new [] hu3) (by simp))
            have hI3 : Hid (IsIt u3 R (.word wNode) ⟨8, .func 45, #[], #[.pointer (some ⟨bx3, 0, none⟩)]⟩) := ⟨bx3, rfl, hx3⟩
            have hBx3 := hide (below_ext hBx2.out hBw hu3)
            have hKx3 := hide (hKx2.out.trans (KT.new TS hu3))
            have hX5 := (hu3.block _ (lt_of_block hX5)).trans hX5
            have hX6 := (hu3.block _ (lt_of_block hX6)).trans hX6
            clear x50 x51 x60 x61
            obtain ⟨x50, x51⟩ := two_cells hX5
            obtain ⟨x60, x61⟩ := two_cells hX6
            refine hK _ _ ?_
            clear hK K
            refine wpAny_ready (rs := [8]) (by kernel_rfl) (by simp) ?_
            refine AllReady.cons (by simp only [List.getElem?_toArray, List.getElem?_cons_succ, List.getElem?_cons_zero]; rfl) (fun K hK => ?_) AllReady.nil
            · go_simp
              refine (Word_any wClose _).mono ?_
              rintro e u4 ⟨bx4, rfl, hx4, hu4⟩
              have hM4 := hide (hM3.out.new hu4)
              have hI1 := hide (hI1.out.kept (KT.new [] hu4) (by simp))
              have hI2 := hide (hI2.out.kept (KT.new [] hu4) (by simp))
              have hI3 := hide (hI3.out.kept (KT.new [] hu4) (by simp))
              have hI4 : Hid (IsIt u4 R (.word wClose) ⟨8, .func 45, #[], #[.pointer (some ⟨bx4, 0, none⟩)]⟩) := ⟨bx4, rfl, hx4⟩
              have hBx4 := hide (below_ext hBx3.out hBw hu4)
              have hKx4 := hide (hKx3.out.trans (KT.new TS hu4))
              have hX5 := (hu4.block _ (lt_of_block hX5)).trans hX5
              have hX6 := (hu4.block _ (lt_of_block hX6)).trans hX6
              clear x50 x51 x60 x61
              obtain ⟨x50, x51⟩ := two_cells hX5
              obtain ⟨x60, x61⟩ := two_cells hX6
              refine hK _ _ ?_
              clear hK K
              refine wpAny_ready (rs := [11]) (by kernel_rfl) (by simp) ?_
              refine AllReady.cons (by simp only [List.getElem?_toArray, List.getElem?_cons_succ, List.getElem?_cons_zero]; rfl) (fun K hK => ?_) AllReady.nil
              · go_simp
                refine (Words_any (.func 56) _ _ _).mono ?_
                rintro e u5 ⟨rfl, hu5⟩
                have hM5 := hide (hM4.out.new hu5)
                have hI1 := hide (hI1.out.kept (KT.new [] hu5) (by simp))
                have hI2 := hide (hI2.out.kept (KT.new [] hu5) (by simp))
                have hI3 := hide (hI3.out.kept (KT.new [] hu5) (by simp))
                have hI4 := hide (hI4.out.kept (KT.new [] hu5) (by simp))
                have hI5 : Hid (IsIt u5 R (.inDir) ⟨8, .func 56, #[.pointer (some ⟨R, 0, none⟩)], #[]⟩) := rfl
                have hBx5 := hide (below_ext hBx4.out hBw hu5)
                have hKx5 := hide (hKx4.out.trans (KT.new TS hu5))
                have hX5 := (hu5.block _ (lt_of_block hX5)).trans hX5
                have hX6 := (hu5.block _ (lt_of_block hX6)).trans hX6
                clear x50 x51 x60 x61
                obtain ⟨x50, x51⟩ := two_cells hX5
                obtain ⟨x60, x61⟩ := two_cells hX6
                refine hK _ _ ?_
                clear hK K
                refine wpAny_ready (rs := [12]) (by kernel_rfl) (by simp) (AllReady.cons (by simp only [List.getElem?_toArray, List.getElem?_cons_succ, List.getElem?_cons_zero]; rfl) (fun K hK => ?_) AllReady.nil)
                go_simp
                refine hK _ _ ?_
                clear hK K
                refine wpAny_ready (rs := [13]) (by kernel_rfl) (by simp) (AllReady.cons (by simp only [List.getElem?_toArray, List.getElem?_cons_succ, List.getElem?_cons_zero]; rfl) (fun K hK => ?_) AllReady.nil)
                go_simp
                refine (entry_must hM5.out bx1 bx2 bx3 bx4 hI1.out hI2.out hI3.out hI4.out hbd.ll).mono ?_
                rintro e uz ⟨⟨r, rfl⟩, lstz, hRMz, hbz, hkz⟩
                refine hK _ _ ?_
                clear hK K
                refine wpAny_done (by kernel_rfl) ?_ _
                clear x50 x51 x60 x61 hX5 hX6
                go_wp2
                go_ret
                refine ⟨rfl, lstz, _, _, hRMz, ?_, ?_⟩
                · exact (hBx5.out.alloc (Nat.le_trans hBw hBx5.out.size) _).trans hbz
                · exact (hKx5.out.alloc _).trans hkz
      refine AllReady.cons (by simp only [List.getElem?_toArray, List.getElem?_cons_succ, List.getElem?_cons_zero]; rfl) (fun K hK => ?_) AllReady.nil
      · go_simp
        refine hK _ _ ?_
        clear hK K
        refine wpAny_ready (rs := [4]) (by kernel_rfl) (by simp) ?_
        refine AllReady.cons (by simp only [List.getElem?_toArray, List.getElem?_cons_succ, List.getElem?_cons_zero]; rfl) (fun K hK => ?_) AllReady.nil
        · go_simp
          refine (Word_any wName _).mono ?_
          rintro e u2 ⟨bx2, rfl, hx2, hu2⟩
          have hM2 := hide (hM1.out.new hu2)
          have hI1 := hide (hI1.out.kept (KT.new [] hu2) (by simp))
          have hI2 : Hid (IsIt u2 R (.word wName) ⟨8, .func 45, #[], #[.pointer (some ⟨bx2, 0, none⟩)]⟩) := ⟨bx2, rfl, hx2⟩
          have hBx2 := hide (below_ext hBx1.out hBw hu2)
          have hKx2 := hide (hKx1.out.trans (KT.new TS hu2))
          have hX5 := (hu2.block _ (lt_of_block hX5)).trans hX5
          have hX6 := (hu2.block _ (lt_of_block hX6)).trans hX6
          clear x50 x51 x60 x61
          obtain ⟨x50, x51⟩ := two_cells hX5
          obtain ⟨x60, x61⟩ := two_cells hX6
          refine hK _ _ ?_
          clear hK K
          refine wpAny_ready (rs := [6]) (by kernel_rfl) (by simp) ?_
          refine AllReady.cons (by simp only [List.getElem?_toArray, List.getElem?_cons_succ, List.getElem?_cons_zero]; rfl) (fun K hK => ?_) AllReady.nil
          · go_simp
            refine (Word_any wNode _).mono ?_
            rintro e u3 ⟨bx3, rfl, hx3, hu3⟩
            have hM3 := hide (hM2.out.new hu3)
            have hI1 := hide (hI1.out.kept (KT.new [] hu3) (by simp))
            have hI2 := hide (hI2.out.kept (KT.new [] hu3) (by simp))
            have hI3 : Hid (IsIt u3 R (.word wNode) ⟨8, .func 45, #[], #[.pointer (some ⟨bx3, 0, none⟩)]⟩) := ⟨bx3, rfl, hx3⟩
            have hBx3 := hide (below_ext hBx2.out hBw hu3)
            have hKx3 := hide (hKx2.out.trans (KT.new TS hu3))
            have hX5 := (hu3.block _ (lt_of_block hX5)).trans hX5
            have hX6 := (hu3.block _ (lt_of_block hX6)).trans hX6
            clear x50 x51 x60 x61
            obtain ⟨x50, x51⟩ := two_cells hX5
            obtain ⟨x60, x61⟩ := two_cells hX6
            refine hK _ _ ?_
            clear hK K
            refine wpAny_ready (rs := [8]) (by kernel_rfl) (by simp) ?_
            refine AllReady.cons (by simp only [List.getElem?_toArray, List.getElem?_cons_succ, List.getElem?_cons_zero]; rfl) (fun K hK => ?_) AllReady.nil
            · go_simp
              refine (Word_any wClose _).mono ?_
              rintro e u4 ⟨bx4, rfl, hx4, hu4⟩
              have hM4 := hide (hM3.out.new hu4)
              have hI1 := hide (hI1.out.kept (KT.new [] hu4) (by simp))
              have hI2 := hide (hI2.out.kept (KT.new [] hu4) (by simp))
              have hI3 := hide (hI3.out.kept (KT.new [] hu4) (by simp))
              have hI4 : Hid (IsIt u4 R (.word wClose) ⟨8, .func 45, #[], #[.pointer (some ⟨bx4, 0, none⟩)]⟩) := ⟨bx4, rfl, hx4⟩
              have hBx4 := hide (below_ext hBx3.out hBw hu4)
              have hKx4 := hide (hKx3.out.trans (KT.new TS hu4))
              have hX5 := (hu4.block _ (lt_of_block hX5)).trans hX5
              have hX6 := (hu4.block _ (lt_of_block hX6)).trans hX6
              clear x50 x51 x60 x61
              obtain ⟨x50, x51⟩ := two_cells hX5
              obtain ⟨x60, x61⟩ := two_cells hX6
              refine hK _ _ ?_
              clear hK K
              refine wpAny_ready (rs := [11]) (by kernel_rfl) (by simp) ?_
              refine AllReady.cons (by simp only [List.getElem?_toArray, List.getElem?_cons_succ, List.getElem?_cons_zero]; rfl) (fun K hK => ?_) AllReady.nil
              · go_simp
                refine (Words_any (.func 56) _ _ _).mono ?_
                rintro e u5 ⟨rfl, hu5⟩
                have hM5 := hide (hM4.out.new hu5)
                have hI1 := hide (hI1.out.kept (KT.new [] hu5) (by simp))
                have hI2 := hide (hI2.out.kept (KT.new [] hu5) (by simp))
                have hI3 := hide (hI3.out.kept (KT.new [] hu5) (by simp))
                have hI4 := hide (hI4.out.kept (KT.new [] hu5) (by simp))
                have hI5 : Hid (IsIt u5 R (.inDir) ⟨8, .func 56, #[.pointer (some ⟨R, 0, none⟩)], #[]⟩) := rfl
                have hBx5 := hide (below_ext hBx4.out hBw hu5)
                have hKx5 := hide (hKx4.out.trans (KT.new TS hu5))
                have hX5 := (hu5.block _ (lt_of_block hX5)).trans hX5
                have hX6 := (hu5.block _ (lt_of_block hX6)).trans hX6
                clear x50 x51 x60 x61
                obtain ⟨x50, x51⟩ := two_cells hX5
                obtain ⟨x60, x61⟩ := two_cells hX6
                refine hK _ _ ?_
                clear hK K
                refine wpAny_ready (rs := [12]) (by kernel_rfl) (by simp) (AllReady.cons (by simp only [List.getElem?_toArray, List.getElem?_cons_succ, List.getElem?_cons_zero]; rfl) (fun K hK => ?_) AllReady.nil)
                go_simp
                refine hK _ _ ?_
                clear hK K
                refine wpAny_ready (rs := [13]) (by kernel_rfl) (by simp) (AllReady.cons (by simp only [List.getElem?_toArray, List.getElem?_cons_succ, List.getElem?_cons_zero]; rfl) (fun K hK => ?_) AllReady.nil)
                go_simp
                refine (entry_must hM5.out bx1 bx2 bx3 bx4 hI1.out hI2.out hI3.out hI4.out hbd.ll).mono ?_
                rintro e uz ⟨⟨r, rfl⟩, lstz, hRMz, hbz, hkz⟩
                refine hK _ _ ?_
                clear hK K
                refine wpAny_done (by kernel_rfl) ?_ _
                clear x50 x51 x60 x61 hX5 hX6
                go_wp2
                go_ret
                refine ⟨rfl, lstz, _, _, hRMz, ?_, ?_⟩
                · exact (hBx5.out.alloc (Nat.le_trans hBw hBx5.out.size) _).trans hbz
                · exact (hKx5.out.alloc _).trans hkz
    refine AllReady.cons (by simp only [List.getElem?_toArray, List.getElem?_cons_succ, List.getElem?_cons_zero]; rfl) (fun K hK => ?_) AllReady.nil
    · go_simp
      refine hK _ _ ?_
      clear hK K
      refine wpAny_ready (rs := [4, 5]) (by kernel_rfl) (by simp) ?_
      refine AllReady.cons (by simp only [List.getElem?_toArray, List.getElem?_cons_succ, List.getElem?_cons_zero]; rfl) (fun K hK => ?_) ?_
      · go_simp
        refine (Word_any wName _).mono ?_
        rintro e u2 ⟨bx2, rfl, hx2, hu2⟩
        have hM2 := hide (hM1.out.new hu2)
        have hI1 := hide (hI1.out.kept (KT.new [] hu2) (by simp))
        have hI2 : Hid (IsIt u2 R (.word wName) ⟨8, .func 45, #[], #[.pointer (some ⟨bx2, 0, none⟩)]⟩) := ⟨bx2, rfl, hx2⟩
        have hBx2 := hide (below_ext hBx1.out hBw hu2)
        have hKx2 := hide (hKx1.out.trans (KT.new TS hu2))
        have hX5 := (hu2.block _ (lt_of_block hX5)).trans hX5
        have hX6 := (hu2.block _ (lt_of_block hX6)).trans hX6
        clear x50 x51 x60 x61
        obtain ⟨x50, x51⟩ := two_cells hX5
        obtain ⟨x60, x61⟩ := two_cells hX6
        refine hK _ _ ?_
        clear hK K
        refine wpAny_ready (rs := [5, 6]) (by kernel_rfl) (by simp) ?_
        refine AllReady.cons (by simp only [List.getElem?_toArray, List.getElem?_cons_succ, List.getElem?_cons_zero]; rfl) (fun K hK => ?_) ?_
        · go_simp
          refine hK _ _ ?_
          clear hK K
          refine wpAny_ready (rs := [6]) (by kernel_rfl) (by simp) ?_
          refine AllReady.cons (by simp only [List.getElem?_toArray, List.getElem?_cons_succ, List.getElem?_cons_zero]; rfl) (fun K hK => ?_) AllReady.nil
          · go_simp
            refine (Word_any wNode _).mono ?_
            rintro e u3 ⟨bx3, rfl, hx3, hu3⟩
            have hM3 := hide (hM2.out.new hu3)
            have hI1 := hide (hI1.out.kept (KT.new [] hu3) (by simp))
            have hI2 := hide (hI2.out.kept (KT.new [] hu3) (by simp))
            have hI3 : Hid (IsIt u3 R (.word wNode) ⟨8, .func 45, #[], #[.pointer (some ⟨bx3, 0, none⟩)]⟩) := ⟨bx3, rfl, hx3⟩
            have hBx3 := hide (below_ext hBx2.out hBw hu3)
            have hKx3 := hide (hKx2.out.trans (KT.new TS hu3))
            have hX5 := (hu3.block _ (lt_of_block hX5)).trans hX5
            have hX6 := (hu3.block _ (lt_of_block hX6)).trans hX6
            clear x50 x51 x60 x61
            obtain ⟨x50, x51⟩ := two_cells hX5
            obtain ⟨x60, x61⟩ := two_cells hX6
            refine hK _ _ ?_
            clear hK K
            refine wpAny_ready (rs := [8]) (by kernel_rfl) (by simp) ?_
            refine AllReady.cons (by simp only [List.getElem?_toArray, List.getElem?_cons_succ, List.getElem?_cons_zero]; rfl) (fun K hK => ?_) AllReady.nil
            · go_simp
              refine (Word_any wClose _).mono ?_
              rintro e u4 ⟨bx4, rfl, hx4, hu4⟩
              have hM4 := hide (hM3.out.new hu4)
              have hI1 := hide (hI1.out.kept (KT.new [] hu4) (by simp))
              have hI2 := hide (hI2.out.kept (KT.new [] hu4) (by simp))
              have hI3 := hide (hI3.out.kept (KT.new [] hu4) (by simp))
              have hI4 : Hid (IsIt u4 R (.word wClose) ⟨8, .func 45, #[], #[.pointer (some ⟨bx4, 0, none⟩)]⟩) := ⟨bx4, rfl, hx4⟩
              have hBx4 := hide (below_ext hBx3.out hBw hu4)
              have hKx4 := hide (hKx3.out.trans (KT.new TS hu4))
              have hX5 := (hu4.block _ (lt_of_block hX5)).trans hX5
              have hX6 := (hu4.block _ (lt_of_block hX6)).trans hX6
              clear x50 x51 x60 x61
              obtain ⟨x50, x51⟩ := two_cells hX5
              obtain ⟨x60, x61⟩ := two_cells hX6
              refine hK _ _ ?_
              clear hK K
              refine wpAny_ready (rs := [11]) (by kernel_rfl) (by simp) ?_
              refine AllReady.cons (by simp only [List.getElem?_toArray, List.getElem?_cons_succ, List.getElem?_cons_zero]; rfl) (fun K hK => ?_) AllReady.nil
              · go_simp
                refine (Words_any (.func 56) _ _ _).mono ?_
                rintro e u5 ⟨rfl, hu5⟩
                have hM5 := hide (hM4.out.new hu5)
                have hI1 := hide (hI1.out.kept (KT.new [] hu5) (by simp))
                have hI2 := hide (hI2.out.kept (KT.new [] hu5) (by simp))
                have hI3 := hide (hI3.out.kept (KT.new [] hu5) (by simp))
                have hI4 := hide (hI4.out.kept (KT.new [] hu5) (by simp))
                have hI5 : Hid (IsIt u5 R (.inDir) ⟨8, .func 56, #[.pointer (some ⟨R, 0, none⟩)], #[]⟩) := rfl
                have hBx5 := hide (below_ext hBx4.out hBw hu5)
                have hKx5 := hide (hKx4.out.trans (KT.new TS hu5))
                have hX5 := (hu5.block _ (lt_of_block hX5)).trans hX5
                have hX6 := (hu5.block _ (lt_of_block hX6)).trans hX6
                clear x50 x51 x60 x61
                obtain ⟨x50, x51⟩ := two_cells hX5
                obtain ⟨x60, x61⟩ := two_cells hX6
                refine hK _ _ ?_
                clear hK K
                refine wpAny_ready (rs := [12]) (by kernel_rfl) (by simp) (AllReady.cons (by simp only [List.getElem?_toArray, List.getElem?_cons_succ, List.getElem?_cons_zero]; rfl) (fun K hK => ?_) AllReady.nil)
                go_simp
                refine hK _ _ ?_
                clear hK K
                refine wpAny_ready (rs := [13]) (by kernel_rfl) (by simp) (AllReady.cons (by simp only [List.getElem?_toArray, List.getElem?_cons_succ, List.getElem?_cons_zero]; rfl) (fun K hK => ?_) AllReady.nil)
                go_simp
                refine (entry_must hM5.out bx1 bx2 bx3 bx4 hI1.out hI2.out hI3.out hI4.out hbd.ll).mono ?_
                rintro e uz ⟨⟨r, rfl⟩, lstz, hRMz, hbz, hkz⟩
                refine hK _ _ ?_
                clear hK K
                refine wpAny_done (by kernel_rfl) ?_ _
                clear x50 x51 x60 x61 hX5 hX6
                go_wp2
                go_ret
                refine ⟨rfl, lstz, _, _, hRMz, ?_, ?_⟩
                · exact (hBx5.out.alloc (Nat.le_trans hBw hBx5.out.size) _).trans hbz
                · exact (hKx5.out.alloc _).trans hkz
        refine AllReady.cons (by simp only [List.getElem?_toArray, List.getElem?_cons_succ, List.getElem?_cons_zero]; rfl) (fun K hK => ?_) AllReady.nil
        · go_simp
          refine (Word_any wNode _).mono ?_
          rintro e u3 ⟨bx3, rfl, hx3, hu3⟩
          have hM3 := hide (hM2.out.new hu3)
          have hI1 := hide (hI1.out.kept (KT.new [] hu3) (by simp))
          have hI2 := hide (hI2.out.kept (KT.new [] hu3) (by simp))
          have hI3 : Hid (IsIt u3 R (.word wNode) ⟨8, .func 45, #[], #[.pointer (some ⟨bx3, 0, none⟩)]⟩) := ⟨bx3, rfl, hx3⟩
          have hBx3 := hide (below_ext hBx2.out hBw hu3)
          have hKx3 := hide (hKx2.out.trans (KT.new TS hu3))
          have hX5 := (hu3.block _ (lt_of_block hX5)).trans hX5
          have hX6 := (hu3.block _ (lt_of_block hX6)).trans hX6
          clear x50 x51 x60 x61
          obtain ⟨x50, x51⟩ := two_cells hX5
          obtain ⟨x60, x61⟩ := two_cells hX6
          refine hK _ _ ?_
          clear hK K
          refine wpAny_ready (rs := [5, 8]) (by kernel_rfl) (by simp) ?_
          refine AllReady.cons (by simp only [List.getElem?_toArray, List.getElem?_cons_succ, List.getElem?_cons_zero]; rfl) (fun K hK => ?_) ?_
          · go_simp
            refine hK _ _ ?_
            clear hK K
            refine wpAny_ready (rs := [8]) (by kernel_rfl) (by simp) ?_
            refine AllReady.cons (by simp only [List.getElem?_toArray, List.getElem?_cons_succ, List.getElem?_cons_zero]; rfl) (fun K hK => ?_) AllReady.nil
            · go_simp
              refine (Word_any wClose _).mono ?_
              rintro e u4 ⟨bx4, rfl, hx4, hu4⟩
              have hM4 := hide (hM3.out.new hu4)
              have hI1 := hide (hI1.out.kept (KT.new [] hu4) (by simp))
              have hI2 := hide (hI2.out.kept (KT.new [] hu4) (by simp))
              have hI3 := hide (hI3.out.kept (KT.new [] hu4) (by simp))
              have hI4 : Hid (IsIt u4 R (.word wClose) ⟨8, .func 45, #[], #[.pointer (some ⟨bx4, 0, none⟩)]⟩) := ⟨bx4, rfl, hx4⟩
              have hBx4 := hide (below_ext hBx3.out hBw hu4)
              have hKx4 := hide (hKx3.out.trans (KT.new TS hu4))
              have hX5 := (hu4.block _ (lt_of_block hX5)).trans hX5
              have hX6 := (hu4.block _ (lt_of_block hX6)).trans hX6
              clear x50 x51 x60 x61
              obtain ⟨x50, x51⟩ := two_cells hX5
              obtain ⟨x60, x61⟩ := two_cells hX6
              refine hK _ _ ?_
              clear hK K
              refine wpAny_ready (rs := [11]) (by kernel_rfl) (by simp) ?_
              refine AllReady.cons (by simp only [List.getElem?_toArray, List.getElem?_cons_succ, List.getElem?_cons_zero]; rfl) (fun K hK => ?_) AllReady.nil
              · go_simp
                refine (Words_any (.func 56) _ _ _).mono ?_
                rintro e u5 ⟨rfl, hu5⟩
                have hM5 := hide (hM4.out.new hu5)
                have hI1 := hide (hI1.out.kept (KT.new [] hu5) (by simp))
                have hI2 := hide (hI2.out.kept (KT.new [] hu5) (by simp))
                have hI3 := hide (hI3.out.kept (KT.new [] hu5) (by simp))
                have hI4 := hide (hI4.out.kept (KT.new [] hu5) (by simp))
                have hI5 : Hid (IsIt u5 R (.inDir) ⟨8, .func 56, #[.pointer (some ⟨R, 0, none⟩)], #[]⟩) := rfl
                have hBx5 := hide (below_ext hBx4.out hBw hu5)
                have hKx5 := hide (hKx4.out.trans (KT.new TS hu5))
                have hX5 := (hu5.block _ (lt_of_block hX5)).trans hX5
                have hX6 := (hu5.block _ (lt_of_block hX6)).trans hX6
                clear x50 x51 x60 x61
                obtain ⟨x50, x51⟩ := two_cells hX5
                obtain ⟨x60, x61⟩ := two_cells hX6
                refine hK _ _ ?_
                clear hK K
                refine wpAny_ready (rs := [12]) (by kernel_rfl) (by simp) (AllReady.cons (by simp only [List.getElem?_toArray, List.getElem?_cons_succ, List.getElem?_cons_zero]; rfl) (fun K hK => ?_) AllReady.nil)
                go_simp
                refine hK _ _ ?_
                clear hK K
                refine wpAny_ready (rs := [13]) (by kernel_rfl) (by simp) (AllReady.cons (by simp only [List.getElem?_toArray, List.getElem?_cons_succ, List.getElem?_cons_zero]; rfl) (fun K hK => ?_) AllReady.nil)
                go_simp
                refine (entry_must hM5.out bx1 bx2 bx3 bx4 hI1.out hI2.out hI3.out hI4.out hbd.ll).mono ?_
                rintro e uz ⟨⟨r, rfl⟩, lstz, hRMz, hbz, hkz⟩
                refine hK _ _ ?_
                clear hK K
                refine wpAny_done (by kernel_rfl) ?_ _
                clear x50 x51 x60 x61 hX5 hX6
                go_wp2
                go_ret
                refine ⟨rfl, lstz, _, _, hRMz, ?_, ?_⟩
                · exact (hBx5.out.alloc (Nat.le_trans hBw hBx5.out.size) _).trans hbz
                · exact (hKx5.out.alloc _).trans hkz
          refine AllReady.cons (by simp only [List.getElem?_toArray, List.getElem?_cons_succ, List.getElem?_cons_zero]; rfl) (fun K hK => ?_) AllReady.nil
          · go_simp
            refine (Word_any wClose _).mono ?_
            rintro e u4 ⟨bx4, rfl, hx4, hu4⟩
            have hM4 := hide (hM3.out.new hu4)
            have hI1 := hide (hI1.out.kept (KT.new [] hu4) (by simp))
            have hI2 := hide (hI2.out.kept (KT.new [] hu4) (by simp))
            have hI3 := hide (hI3.out.kept (KT.new [] hu4) (by simp))
            have hI4 : Hid (IsIt u4 R (.word wClose) ⟨8, .func 45, #[], #[.pointer (some ⟨bx4, 0, none⟩)]⟩) := ⟨bx4, rfl, hx4⟩
            have hBx4 := hide (below_ext hBx3.out hBw hu4)
            have hKx4 := hide (hKx3.out.trans (KT.new TS hu4))
            have hX5 := (hu4.block _ (lt_of_block hX5)).trans hX5
            have hX6 := (hu4.block _ (lt_of_block hX6)).trans hX6
            clear x50 x51 x60 x61
            obtain ⟨x50, x51⟩ := two_cells hX5
            obtain ⟨x60, x61⟩ := two_cells hX6
            refine hK _ _ ?_
            clear hK K
            refine wpAny_ready (rs := [5, 11]) (by kernel_rfl) (by simp) ?_
            refine AllReady.cons (by simp only [List.getElem?_toArray, List.getElem?_cons_succ, List.getElem?_cons_zero]; rfl) (fun K hK => ?_) ?_
            · go_simp
              refine hK _ _ ?_
              clear hK K
              refine wpAny_ready (rs := [11]) (by kernel_rfl) (by simp) ?_
              refine AllReady.cons (by simp only [List.getElem?_toArray, List.getElem?_cons_succ, List.getElem?_cons_zero]; rfl) (fun K hK => ?_) AllReady.nil
              · go_simp
                refine (Words_any (.func 56) _ _ _).mono ?_
                rintro e u5 ⟨rfl, hu5⟩
                have hM5 := hide (hM4.out.new hu5)
                have hI1 := hide (hI1.out.kept (KT.new [] hu5) (by simp))
                have hI2 := hide (hI2.out.kept (KT.new [] hu5) (by simp))
                have hI3 := hide (hI3.out.kept (KT.new [] hu5) (by simp))
                have hI4 := hide (hI4.out.kept (KT.new [] hu5) (by simp))
                have hI5 : Hid (IsIt u5 R (.inDir) ⟨8, .func 56, #[.pointer (some ⟨R, 0, none⟩)], #[]⟩) := rfl
                have hBx5 := hide (below_ext hBx4.out hBw hu5)
                have hKx5 := hide (hKx4.out.trans (KT.new TS hu5))
                have hX5 := (hu5.block _ (lt_of_block hX5)).trans hX5
                have hX6 := (hu5.block _ (lt_of_block hX6)).trans hX6
                clear x50 x51 x60 x61
                obtain ⟨x50, x51⟩ := two_cells hX5
                obtain ⟨x60, x61⟩ := two_cells hX6
                refine hK _ _ ?_
                clear hK K
                refine wpAny_ready (rs := [12]) (by kernel_rfl) (by simp) (AllReady.cons (by simp only [List.getElem?_toArray, List.getElem?_cons_succ, List.getElem?_cons_zero]; rfl) (fun K hK => ?_) AllReady.nil)
                go_simp
                refine hK _ _ ?_
                clear hK K
                refine wpAny_ready (rs := [13]) (by kernel_rfl) (by simp) (AllReady.cons (by simp only [List.getElem?_toArray, List.getElem?_cons_succ, List.getElem?_cons_zero]; rfl) (fun K hK => ?_) AllReady.nil)
                go_simp
                refine (entry_must hM5.out bx1 bx2 bx3 bx4 hI1.out hI2.out hI3.out hI4.out hbd.ll).mono ?_
                rintro e uz ⟨⟨r, rfl⟩, lstz, hRMz, hbz, hkz⟩
                refine hK _ _ ?_
                clear hK K
                refine wpAny_done (by kernel_rfl) ?_ _
                clear x50 x51 x60 x61 hX5 hX6
                go_wp2
                go_ret
                refine ⟨rfl, lstz, _, _, hRMz, ?_, ?_⟩
                · exact (hBx5.out.alloc (Nat.le_trans hBw hBx5.out.size) _).trans hbz
                · exact (hKx5.out.alloc _).trans hkz
            refine AllReady.cons (by simp only [List.getElem?_toArray, List.getElem?_cons_succ, List.getElem?_cons_zero]; rfl) (fun K hK => ?_) AllReady.nil
            · go_simp
              refine (Words_any (.func 56) _ _ _).mono ?_
              rintro e u5 ⟨rfl, hu5⟩
              have hM5 := hide (hM4.out.new hu5)
              have hI1 := hide (hI1.out.kept (KT.new [] hu5) (by simp))
              have hI2 := hide (hI2.out.kept (KT.new [] hu5) (by simp))
              have hI3 := hide (hI3.out.kept (KT.new [] hu5) (by simp))
              have hI4 := hide (hI4.out.kept (KT.new [] hu5) (by simp))
              have hI5 : Hid (IsIt u5 R (.inDir) ⟨8, .func 56, #[.pointer (some ⟨R, 0, none⟩)], #[]⟩) := rfl
              have hBx5 := hide (below_ext hBx4.out hBw hu5)
              have hKx5 := hide (hKx4.out.trans (KT.new TS hu5))
              have hX5 := (hu5.block _ (lt_of_block hX5)).trans hX5
              have hX6 := (hu5.block _ (lt_of_block hX6)).trans hX6
              clear x50 x51 x60 x61
              obtain ⟨x50, x51⟩ := two_cells hX5
              obtain ⟨x60, x61⟩ := two_cells hX6
              refine hK _ _ ?_
              clear hK K
              refine wpAny_ready (rs := [5]) (by kernel_rfl) (by simp) ?_
              refine AllReady.cons (by simp only [List.getElem?_toArray, List.getElem?_cons_succ, List.getElem?_cons_zero]; rfl) (fun K hK => ?_) AllReady.nil
              · go_simp
                refine hK _ _ ?_
                clear hK K
                refine wpAny_ready (rs := [12]) (by kernel_rfl) (by simp) (AllReady.cons (by simp only [List.getElem?_toArray, List.getElem?_cons_succ, List.getElem?_cons_zero]; rfl) (fun K hK => ?_) AllReady.nil)
                go_simp
                refine hK _ _ ?_
                clear hK K
                refine wpAny_ready (rs := [13]) (by kernel_rfl) (by simp) (AllReady.cons (by simp only [List.getElem?_toArray, List.getElem?_cons_succ, List.getElem?_cons_zero]; rfl) (fun K hK => ?_) AllReady.nil)
                go_simp
                refine (entry_must hM5.out bx1 bx2 bx3 bx4 hI1.out hI2.out hI3.out hI4.out hbd.ll).mono ?_
                rintro e uz ⟨⟨r, rfl⟩, lstz, hRMz, hbz, hkz⟩
                refine hK _ _ ?_
                clear hK K
                refine wpAny_done (by kernel_rfl) ?_ _
                clear x50 x51 x60 x61 hX5 hX6
                go_wp2
                go_ret
                refine ⟨rfl, lstz, _, _, hRMz, ?_, ?_⟩
                · exact (hBx5.out.alloc (Nat.le_trans hBw hBx5.out.size) _).trans hbz
                · exact (hKx5.out.alloc _).trans hkz
      refine AllReady.cons (by simp only [List.getElem?_toArray, List.getElem?_cons_succ, List.getElem?_cons_zero]; rfl) (fun K hK => ?_) AllReady.nil
      · go_simp
        refine hK _ _ ?_
        clear hK K
        refine wpAny_ready (rs := [4]) (by kernel_rfl) (by simp) ?_
        refine AllReady.cons (by simp only [List.getElem?_toArray, List.getElem?_cons_succ, List.getElem?_cons_zero]; rfl) (fun K hK => ?_) AllReady.nil
        · go_simp
          refine (Word_any wName _).mono ?_
          rintro e u2 ⟨bx2, rfl, hx2, hu2⟩
          have hM2 := hide (hM1.out.new hu2)
          have hI1 := hide (hI1.out.kept (KT.new [] hu2) (by simp))
          have hI2 : Hid (IsIt u2 R (.word wName) ⟨8, .func 45, #[], #[.pointer (some ⟨bx2, 0, none⟩)]⟩) := ⟨bx2, rfl, hx2⟩
          have hBx2 := hide (below_ext hBx1.out hBw hu2)
          have hKx2 := hide (hKx1.out.trans (KT.new TS hu2))
          have hX5 := (hu2.block _ (lt_of_block hX5)).trans hX5
          have hX6 := (hu2.block _ (lt_of_block hX6)).trans hX6
          clear x50 x51 x60 x61
          obtain ⟨x50, x51⟩ := two_cells hX5
          obtain ⟨x60, x61⟩ := two_cells hX6
          refine hK _ _ ?_
          clear hK K
          refine wpAny_ready (rs := [6]) (by kernel_rfl) (by simp) ?_
          refine AllReady.cons (by simp only [List.getElem?_toArray, List.getElem?_cons_succ, List.getElem?_cons_zero]; rfl) (fun K hK => ?_) AllReady.nil
          · go_simp
            refine (Word_any wNode _).mono ?_
            rintro e u3 ⟨bx3, rfl, hx3, hu3⟩
            have hM3 := hide (hM2.out.new hu3)
            have hI1 := hide (hI1.out.kept (KT.new [] hu3) (by simp))
            have hI2 := hide (hI2.out.kept (KT.new [] hu3) (by simp))
            have hI3 : Hid (IsIt u3 R (.word wNode) ⟨8, .func 45, #[], #[.pointer (some ⟨bx3, 0, none⟩)]⟩) := ⟨bx3, rfl, hx3⟩
            have hBx3 := hide (below_ext hBx2.out hBw hu3)
            have hKx3 := hide (hKx2.out.trans (KT.new TS hu3))
            have hX5 := (hu3.block _ (lt_of_block hX5)).trans hX5
            have hX6 := (hu3.block _ (lt_of_block hX6)).trans hX6
            clear x50 x51 x60 x61
            obtain ⟨x50, x51⟩ := two_cells hX5
            obtain ⟨x60, x61⟩ := two_cells hX6
            refine hK _ _ ?_
            clear hK K
            refine wpAny_ready (rs := [8]) (by kernel_rfl) (by simp) ?_
            refine AllReady.cons (by simp only [List.getElem?_toArray, List.getElem?_cons_succ, List.getElem?_cons_zero]; rfl) (fun K hK => ?_) AllReady.nil
            · go_simp
              refine (Word_any wClose _).mono ?_
              rintro e u4 ⟨bx4, rfl, hx4, hu4⟩
              have hM4 := hide (hM3.out.new hu4)
              have hI1 := hide (hI1.out.kept (KT.new [] hu4) (by simp))
              have hI2 := hide (hI2.out.kept (KT.new [] hu4) (by simp))
              have hI3 := hide (hI3.out.kept (KT.new [] hu4) (by simp))
              have hI4 : Hid (IsIt u4 R (.word wClose) ⟨8, .func 45, #[], #[.pointer (some ⟨bx4, 0, none⟩)]⟩) := ⟨bx4, rfl, hx4⟩
              have hBx4 := hide (below_ext hBx3.out hBw hu4)
              have hKx4 := hide (hKx3.out.trans (KT.new TS hu4))
              have hX5 := (hu4.block _ (lt_of_block hX5)).trans hX5
              have hX6 := (hu4.block _ (lt_of_block hX6)).trans hX6
              clear x50 x51 x60 x61
              obtain ⟨x50, x51⟩ := two_cells hX5
              obtain ⟨x60, x61⟩ := two_cells hX6
              refine hK _ _ ?_
              clear hK K
              refine wpAny_ready (rs := [11]) (by kernel_rfl) (by simp) ?_
              refine AllReady.cons (by simp only [List.getElem?_toArray, List.getElem?_cons_succ, List.getElem?_cons_zero]; rfl) (fun K hK => ?_) AllReady.nil
              · go_simp
                refine (Words_any (.func 56) _ _ _).mono ?_
                rintro e u5 ⟨rfl, hu5⟩
                have hM5 := hide (hM4.out.new hu5)
                have hI1 := hide (hI1.out.kept (KT.new [] hu5) (by simp))
                have hI2 := hide (hI2.out.kept (KT.new [] hu5) (by simp))
                have hI3 := hide (hI3.out.kept (KT.new [] hu5) (by simp))
                have hI4 := hide (hI4.out.kept (KT.new [] hu5) (by simp))
                have hI5 : Hid (IsIt u5 R (.inDir) ⟨8, .func 56, #[.pointer (some ⟨R, 0, none⟩)], #[]⟩) := rfl
                have hBx5 := hide (below_ext hBx4.out hBw hu5)
                have hKx5 := hide (hKx4.out.trans (KT.new TS hu5))
                have hX5 := (hu5.block _ (lt_of_block hX5)).trans hX5
                have hX6 := (hu5.block _ (lt_of_block hX6)).trans hX6
                clear x50 x51 x60 x61
                obtain ⟨x50, x51⟩ := two_cells hX5
                obtain ⟨x60, x61⟩ := two_cells hX6
                refine hK _ _ ?_
                clear hK K
                refine wpAny_ready (rs := [12]) (by kernel_rfl) (by simp) (AllReady.cons (by simp only [List.getElem?_toArray, List.getElem?_cons_succ, List.getElem?_cons_zero]; rfl) (fun K hK => ?_) AllReady.nil)
                go_simp
                refine hK _ _ ?_
                clear hK K
                refine wpAny_ready (rs := [13]) (by kernel_rfl) (by simp) (AllReady.cons (by simp only [List.getElem?_toArray, List.getElem?_cons_succ, List.getElem?_cons_zero]; rfl) (fun K hK => ?_) AllReady.nil)
                go_simp
                refine (entry_must hM5.out bx1 bx2 bx3 bx4 hI1.out hI2.out hI3.out hI4.out hbd.ll).mono ?_
                rintro e uz ⟨⟨r, rfl⟩, lstz, hRMz, hbz, hkz⟩
                refine hK _ _ ?_
                clear hK K
                refine wpAny_done (by kernel_rfl) ?_ _
                clear x50 x51 x60 x61 hX5 hX6
                go_wp2
                go_ret
                refine ⟨rfl, lstz, _, _, hRMz, ?_, ?_⟩
                · exact (hBx5.out.alloc (Nat.le_trans hBw hBx5.out.size) _).trans hbz
                · exact (hKx5.out.alloc _).trans hkz
  refine AllReady.cons (by simp only [List.getElem?_toArray, List.getElem?_cons_succ, List.getElem?_cons_zero]; rfl) (fun K hK => ?_) ?_
  · go_simp
    refine hK _ _ ?_
    clear hK K
    refine wpAny_ready (rs := [3, 7]) (by kernel_rfl) (by simp) ?_
    refine AllReady.cons (by simp only [List.getElem?_toArray, List.getElem?_cons_succ, List.getElem?_cons_zero]; rfl) (fun K hK => ?_) ?_
    · go_simp
      refine (Word_any wOpen _).mono ?_
      rintro e u1 ⟨bx1, rfl, hx1, hu1⟩
      have hM1 := hide (hM0.out.new hu1)
      have hI1 : Hid (IsIt u1 R (.word wOpen) ⟨8, .func 45, #[], #[.pointer (some ⟨bx1, 0, none⟩)]⟩) := ⟨bx1, rfl, hx1⟩
      have hBx1 := hide (below_ext hBx0.out hBw hu1)
      have hKx1 := hide (hKx0.out.trans (KT.new TS hu1))
      have hX5 := (hu1.block _ (lt_of_block hX5)).trans hX5
      have hX6 := (hu1.block _ (lt_of_block hX6)).trans hX6
      clear x50 x51 x60 x61
      obtain ⟨x50, x51⟩ := two_cells hX5
      obtain ⟨x60, x61⟩ := two_cells hX6
      refine hK _ _ ?_
      clear hK K
      refine wpAny_ready (rs := [4, 7]) (by kernel_rfl) (by simp) ?_
      refine AllReady.cons (by simp only [List.getElem?_toArray, List.getElem?_cons_succ, List.getElem?_cons_zero]; rfl) (fun K hK => ?_) ?_
      · go_simp
        refine (Word_any wName _).mono ?_
        rintro e u2 ⟨bx2, rfl, hx2, hu2⟩
        have hM2 := hide (hM1.out.new hu2)
        have hI1 := hide (hI1.out.kept (KT.new [] hu2) (by simp))
        have hI2 : Hid (IsIt u2 R (.word wName) ⟨8, .func 45, #[], #[.pointer (some ⟨bx2, 0, none⟩)]⟩) := ⟨bx2, rfl, hx2⟩
        have hBx2 := hide (below_ext hBx1.out hBw hu2)
        have hKx2 := hide (hKx1.out.trans (KT.new TS hu2))
        have hX5 := (hu2.block _ (lt_of_block hX5)).trans hX5
        have hX6 := (hu2.block _ (lt_of_block hX6)).trans hX6
        clear x50 x51 x60 x61
        obtain ⟨x50, x51⟩ := two_cells hX5
        obtain ⟨x60, x61⟩ := two_cells hX6
        refine hK _ _ ?_
        clear hK K
        refine wpAny_ready (rs := [6, 7]) (by kernel_rfl) (by simp) ?_
        refine AllReady.cons (by simp only [List.getElem?_toArray, List.getElem?_cons_succ, List.getElem?_cons_zero]; rfl) (fun K hK => ?_) ?_
        · go_simp
          refine (Word_any wNode _).mono ?_
          rintro e u3 ⟨bx3, rfl, hx3, hu3⟩
          have hM3 := hide (hM2.out.new hu3)
          have hI1 := hide (hI1.out.kept (KT.new [] hu3) (by simp))
          have hI2 := hide (hI2.out.kept (KT.new [] hu3) (by simp))
          have hI3 : Hid (IsIt u3 R (.word wNode) ⟨8, .func 45, #[], #[.pointer (some ⟨bx3, 0, none⟩)]⟩) := ⟨bx3, rfl, hx3⟩
          have hBx3 := hide (below_ext hBx2.out hBw hu3)
          have hKx3 := hide (hKx2.out.trans (KT.new TS hu3))
          have hX5 := (hu3.block _ (lt_of_block hX5)).trans hX5
          have hX6 := (hu3.block _ (lt_of_block hX6)).trans hX6
          clear x50 x51 x60 x61
          obtain ⟨x50, x51⟩ := two_cells hX5
          obtain ⟨x60, x61⟩ := two_cells hX6
          refine hK _ _ ?_
          clear hK K
          refine wpAny_ready (rs := [7, 8]) (by kernel_rfl) (by simp) ?_
          refine AllReady.cons (by simp only [List.getElem?_toArray, List.getElem?_cons_succ, List.getElem?_cons_zero]; rfl) (fun K hK => ?_) ?_
          · go_simp
            refine hK _ _ ?_
            clear hK K
            refine wpAny_ready (rs := [8]) (by kernel_rfl) (by simp) ?_
            refine AllReady.cons (by simp only [List.getElem?_toArray, List.getElem?_cons_succ, List.getElem?_cons_zero]; rfl) (fun K hK => ?_) AllReady.nil
            · go_simp
              refine (Word_any wClose _).mono ?_
              rintro e u4 ⟨bx4, rfl, hx4, hu4⟩
              have hM4 := hide (hM3.out.new hu4)
              have hI1 := hide (hI1.out.kept (KT.new [] hu4) (by simp))
              have hI2 := hide (hI2.out.kept (KT.new [] hu4) (by simp))
              have hI3 := hide (hI3.out.kept (KT.new [] hu4) (by simp))
              have hI4 : Hid (IsIt u4 R (.word wClose) ⟨8, .func 45, #[], #[.pointer (some ⟨bx4, 0, none⟩)]⟩) := ⟨bx4, rfl, hx4⟩
              have hBx4 := hide (below_ext hBx3.out hBw hu4)
              have hKx4 := hide (hKx3.out.trans (KT.new TS hu4))
              have hX5 := (hu4.block _ (lt_of_block hX5)).trans hX5
              have hX6 := (hu4.block _ (lt_of_block hX6)).trans hX6
              clear x50 x51 x60 x61
              obtain ⟨x50, x51⟩ := two_cells hX5
              obtain ⟨x60, x61⟩ := two_cells hX6
              refine hK _ _ ?_
              clear hK K
              refine wpAny_ready (rs := [11]) (by kernel_rfl) (by simp) ?_
              refine AllReady.cons (by simp only [List.getElem?_toArray, List.getElem?_cons_succ, List.getElem?_cons_zero]; rfl) (fun K hK => ?_) AllReady.nil
              · go_simp
                refine (Words_any (.func 56) _ _ _).mono ?_
                rintro e u5 ⟨rfl, hu5⟩
                have hM5 := hide (hM4.out.new hu5)
                have hI1 := hide (hI1.out.kept (KT.new [] hu5) (by simp))
                have hI2 := hide (hI2.out.kept (KT.new [] hu5) (by simp))
                have hI3 := hide (hI3.out.kept (KT.new [] hu5) (by simp))
                have hI4 := hide (hI4.out.kept (KT.new [] hu5) (by simp))
                have hI5 : Hid (IsIt u5 R (.inDir) ⟨8, .func 56, #[.pointer (some ⟨R, 0, none⟩)], #[]⟩) := rfl
                have hBx5 := hide (below_ext hBx4.out hBw hu5)
                have hKx5 := hide (hKx4.out.trans (KT.new TS hu5))
                have hX5 := (hu5.block _ (lt_of_block hX5)).trans hX5
                have hX6 := (hu5.block _ (lt_of_block hX6)).trans hX6
                clear x50 x51 x60 x61
                obtain ⟨x50, x51⟩ := two_cells hX5
                obtain ⟨x60, x61⟩ := two_cells hX6
                refine hK _ _ ?_
                clear hK K
                refine wpAny_ready (rs := [12]) (by kernel_rfl) (by simp) (AllReady.cons (by simp only [List.getElem?_toArray, List.getElem?_cons_succ, List.getElem?_cons_zero]; rfl) (fun K hK => ?_) AllReady.nil)
                go_simp
                refine hK _ _ ?_
                clear hK K
                refine wpAny_ready (rs := [13]) (by kernel_rfl) (by simp) (AllReady.cons (by simp only [List.getElem?_toArray, List.getElem?_cons_succ, List.getElem?_cons_zero]; rfl) (fun K hK => ?_) AllReady.nil)
                go_simp
                refine (entry_must hM5.out bx1 bx2 bx3 bx4 hI1.out hI2.out hI3.out hI4.out hbd.ll).mono ?_
                rintro e uz ⟨⟨r, rfl⟩, lstz, hRMz, hbz, hkz⟩
                refine hK _ _ ?_
                clear hK K
                refine wpAny_done (by kernel_rfl) ?_ _
                clear x50 x51 x60 x61 hX5 hX6
                go_wp2
                go_ret
                refine ⟨rfl, lstz, _, _, hRMz, ?_, ?_⟩
                · exact (hBx5.out.alloc (Nat.le_trans hBw hBx5.out.size) _).trans hbz
                · exact (hKx5.out.alloc _).trans hkz
          refine AllReady.cons (by simp only [List.getElem?_toArray, List.getElem?_cons_succ, List.getElem?_cons_zero]; rfl) (fun K hK => ?_) AllReady.nil
          · go_simp
            refine (Word_any wClose _).mono ?_
            rintro e u4 ⟨bx4, rfl, hx4, hu4⟩
            have hM4 := hide (hM3.out.new hu4)
            have hI1 := hide (hI1.out.kept (KT.new [] hu4) (by simp))
            have hI2 := hide (hI2.out.kept (KT.new [] hu4) (by simp))
            have hI3 := hide (hI3.out.kept (KT.new [] hu4) (by simp))
            have hI4 : Hid (IsIt u4 R (.word wClose) ⟨8, .func 45, #[], #[.pointer (some ⟨bx4, 0, none⟩)]⟩) := ⟨bx4, rfl, hx4⟩
            have hBx4 := hide (below_ext hBx3.out hBw hu4)
            have hKx4 := hide (hKx3.out.trans (KT.new TS hu4))
            have hX5 := (hu4.block _ (lt_of_block hX5)).trans hX5
            have hX6 := (hu4.block _ (lt_of_block hX6)).trans hX6
            clear x50 x51 x60 x61
            obtain ⟨x50, x51⟩ := two_cells hX5
            obtain ⟨x60, x61⟩ := two_cells hX6
            refine hK _ _ ?_
            clear hK K
            refine wpAny_ready (rs := [7, 11]) (by kernel_rfl) (by simp) ?_
            refine AllReady.cons (by simp only [List.getElem?_toArray, List.getElem?_cons_succ, List.getElem?_cons_zero]; rfl) (fun K hK => ?_) ?_
            · go_simp
              refine hK _ _ ?_
              clear hK K
              refine wpAny_ready (rs := [11]) (by kernel_rfl) (by simp) ?_
              refine AllReady.cons (by simp only [List.getElem?_toArray, List.getElem?_cons_succ, List.getElem?_cons_zero]; rfl) (fun K hK => ?_) AllReady.nil
              · go_simp
                refine (Words_any (.func 56) _ _ _).mono ?_
                rintro e u5 ⟨rfl, hu5⟩
                have hM5 := hide (hM4.out.new hu5)
                have hI1 := hide (hI1.out.kept (KT.new [] hu5) (by simp))
                have hI2 := hide (hI2.out.kept (KT.new [] hu5) (by simp))
                have hI3 := hide (hI3.out.kept (KT.new [] hu5) (by simp))
                have hI4 := hide (hI4.out.kept (KT.new [] hu5) (by simp))
                have hI5 : Hid (IsIt u5 R (.inDir) ⟨8, .func 56, #[.pointer (some ⟨R, 0, none⟩)], #[]⟩) := rfl
                have hBx5 := hide (below_ext hBx4.out hBw hu5)
                have hKx5 := hide (hKx4.out.trans (KT.new TS hu5))
                have hX5 := (hu5.block _ (lt_of_block hX5)).trans hX5
                have hX6 := (hu5.block _ (lt_of_block hX6)).trans hX6
                clear x50 x51 x60 x61
                obtain ⟨x50, x51⟩ := two_cells hX5
                obtain ⟨x60, x61⟩ := two_cells hX6
                refine hK _ _ ?_
                clear hK K
                refine wpAny_ready (rs := [12]) (by kernel_rfl) (by simp) (AllReady.cons (by simp only [List.getElem?_toArray, List.getElem?_cons_succ, List.getElem?_cons_zero]; rfl) (fun K hK => ?_) AllReady.nil)
                go_simp
                refine hK _ _ ?_
                clear hK K
                refine wpAny_ready (rs := [13]) (by kernel_rfl) (by simp) (AllReady.cons (by simp only [List.getElem?_toArray, List.getElem?_cons_succ, List.getElem?_cons_zero]; rfl) (fun K hK => ?_) AllReady.nil)
                go_simp
                refine (entry_must hM5.out bx1 bx2 bx3 bx4 hI1.out hI2.out hI3.out hI4.out hbd.ll).mono ?_
                rintro e uz ⟨⟨r, rfl⟩, lstz, hRMz, hbz, hkz⟩
                refine hK _ _ ?_
                clear hK K
                refine wpAny_done (by kernel_rfl) ?_ _
                clear x50 x51 x60 x61 hX5 hX6
                go_wp2
                go_ret
                refine ⟨rfl, lstz, _, _, hRMz, ?_, ?_⟩
                · exact (hBx5.out.alloc (Nat.le_trans hBw hBx5.out.size) _).trans hbz
                · exact (hKx5.out.alloc _).trans hkz
            refine AllReady.cons (by simp only [List.getElem?_toArray, List.getElem?_cons_succ, List.getElem?_cons_zero]; rfl) (fun K hK => ?_) AllReady.nil
            · go_simp
              refine (Words_any (.func 56) _ _ _).mono ?_
              rintro e u5 ⟨rfl, hu5⟩
              have hM5 := hide (hM4.out.new hu5)
              have hI1 := hide (hI1.out.kept (KT.new [] hu5) (by simp))
              have hI2 := hide (hI2.out.kept (KT.new [] hu5) (by simp))
              have hI3 := hide (hI3.out.kept (KT.new [] hu5) (by simp))
              have hI4 := hide (hI4.out.kept (KT.new [] hu5) (by simp))
              have hI5 : Hid (IsIt u5 R (.inDir) ⟨8, .func 56, #[.pointer (some ⟨R, 0, none⟩)], #[]⟩) := rfl
              have hBx5 := hide (below_ext hBx4.out hBw hu5)
              have hKx5 := hide (hKx4.out.trans (KT.new TS hu5))
              have hX5 := (hu5.block _ (lt_of_block hX5)).trans hX5
              have hX6 := (hu5.block _ (lt_of_block hX6)).trans hX6
              clear x50 x51 x60 x61
              obtain ⟨x50, x51⟩ := two_cells hX5
              obtain ⟨x60, x61⟩ := two_cells hX6
              refine hK _ _ ?_
              clear hK K
              refine wpAny_ready (rs := [7]) (by kernel_rfl) (by simp) ?_
              refine AllReady.cons (by simp only [List.getElem?_toArray, List.getElem?_cons_succ, List.getElem?_cons_zero]; rfl) (fun K hK => ?_) AllReady.nil
              · go_simp
                refine hK _ _ ?_
                clear hK K
                refine wpAny_ready (rs := [12]) (by kernel_rfl) (by simp) (AllReady.cons (by simp only [List.getElem?_toArray, List.getElem?_cons_succ, List.getElem?_cons_zero]; rfl) (fun K hK => ?_) AllReady.nil)
                go_simp
                refine hK _ _ ?_
                clear hK K
                refine wpAny_ready (rs := [13]) (by kernel_rfl) (by simp) (AllReady.cons (by simp only [List.getElem?_toArray, List.getElem?_cons_succ, List.getElem?_cons_zero]; rfl) (fun K hK => ?_) AllReady.nil)
                go_simp
                refine (entry_must hM5.out bx1 bx2 bx3 bx4 hI1.out hI2.out hI3.out hI4.out hbd.ll).mono ?_
                rintro e uz ⟨⟨r, rfl⟩, lstz, hRMz, hbz, hkz⟩
                refine hK _ _ ?_
                clear hK K
                refine wpAny_done (by kernel_rfl) ?_ _
                clear x50 x51 x60 x61 hX5 hX6
                go_wp2
                go_ret
                refine ⟨rfl, lstz, _, _, hRMz, ?_, ?_⟩
                · exact (hBx5.out.alloc (Nat.le_trans hBw hBx5.out.size) _).trans hbz
                · exact (hKx5.out.alloc _).trans hkz
        refine AllReady.cons (by simp only [List.getElem?_toArray, List.getElem?_cons_succ, List.getElem?_cons_zero]; rfl) (fun K hK => ?_) AllReady.nil
        · go_simp
          refine hK _ _ ?_
          clear hK K
          refine wpAny_ready (rs := [6]) (by kernel_rfl) (by simp) ?_
          refine AllReady.cons (by simp only [List.getElem?_toArray, List.getElem?_cons_succ, List.getElem?_cons_zero]; rfl) (fun K hK => ?_) AllReady.nil
          · go_simp
            refine (Word_any wNode _).mono ?_
            rintro e u3 ⟨bx3, rfl, hx3, hu3⟩
            have hM3 := hide (hM2.out.new hu3)
            have hI1 := hide (hI1.out.kept (KT.new [] hu3) (by simp))
            have hI2 := hide (hI2.out.kept (KT.new [] hu3) (by simp))
            have hI3 : Hid (IsIt u3 R (.word wNode) ⟨8, .func 45, #[], #[.pointer (some ⟨bx3, 0, none⟩)]⟩) := ⟨bx3, rfl, hx3⟩
            have hBx3 := hide (below_ext hBx2.out hBw hu3)
            have hKx3 := hide (hKx2.out.trans (KT.new TS hu3))
            have hX5 := (hu3.block _ (lt_of_block hX5)).trans hX5
            have hX6 := (hu3.block _ (lt_of_block hX6)).trans hX6
            clear x50 x51 x60 x61
            obtain ⟨x50, x51⟩ := two_cells hX5
            obtain ⟨x60, x61⟩ := two_cells hX6
            refine hK _ _ ?_
            clear hK K
            refine wpAny_ready (rs := [8]) (by kernel_rfl) (by simp) ?_
            refine AllReady.cons (by simp only [List.getElem?_toArray, List.getElem?_cons_succ, List.getElem?_cons_zero]; rfl) (fun K hK => ?_) AllReady.nil
            · go_simp
              refine (Word_any wClose _).mono ?_
              rintro e u4 ⟨bx4, rfl, hx4, hu4⟩
              have hM4 := hide (hM3.out.new hu4)
              have hI1 := hide (hI1.out.kept (KT.new [] hu4) (by simp))
              have hI2 := hide (hI2.out.kept (KT.new [] hu4) (by simp))
              have hI3 := hide (hI3.out.kept (KT.new [] hu4) (by simp))
              have hI4 : Hid (IsIt u4 R (.word wClose) ⟨8, .func 45, #[], #[.pointer (some ⟨bx4, 0, none⟩)]⟩) := ⟨bx4, rfl, hx4⟩
              have hBx4 := hide (below_ext hBx3.out hBw hu4)
              have hKx4 := hide (hKx3.out.trans (KT.new TS hu4))
              have hX5 := (hu4.block _ (lt_of_block hX5)).trans hX5
              have hX6 := (hu4.block _ (lt_of_block hX6)).trans hX6
              clear x50 x51 x60 x61
              obtain ⟨x50, x51⟩ := two_cells hX5
              obtain ⟨x60, x61⟩ := two_cells hX6
              refine hK _ _ ?_
              clear hK K
              refine wpAny_ready (rs := [11]) (by kernel_rfl) (by simp) ?_
              refine AllReady.cons (by simp only [List.getElem?_toArray, List.getElem?_cons_succ, List.getElem?_cons_zero]; rfl) (fun K hK => ?_) AllReady.nil
              · go_simp
                refine (Words_any (.func 56) _ _ _).mono ?_
                rintro e u5 ⟨rfl, hu5⟩
                have hM5 := hide (hM4.out.new hu5)
                have hI1 := hide (hI1.out.kept (KT.new [] hu5) (by simp))
                have hI2 := hide (hI2.out.kept (KT.new [] hu5) (by simp))
                have hI3 := hide (hI3.out.kept (KT.new [] hu5) (by simp))
                have hI4 := hide (hI4.out.kept (KT.new [] hu5) (by simp))
                have hI5 : Hid (IsIt u5 R (.inDir) ⟨8, .func 56, #[.pointer (some ⟨R, 0, none⟩)], #[]⟩) := rfl
                have hBx5 := hide (below_ext hBx4.out hBw hu5)
                have hKx5 := hide (hKx4.out.trans (KT.new TS hu5))
                have hX5 := (hu5.block _ (lt_of_block hX5)).trans hX5
                have hX6 := (hu5.block _ (lt_of_block hX6)).trans hX6
                clear x50 x51 x60 x61
                obtain ⟨x50, x51⟩ := two_cells hX5
                obtain ⟨x60, x61⟩ := two_cells hX6
                refine hK _ _ ?_
                clear hK K
                refine wpAny_ready (rs := [12]) (by kernel_rfl) (by simp) (AllReady.cons (by simp only [List.getElem?_toArray, List.getElem?_cons_succ, List.getElem?_cons_zero]; rfl) (fun K hK => ?_) AllReady.nil)
                go_simp
                refine hK _ _ ?_
                clear hK K
                refine wpAny_ready (rs := [13]) (by kernel_rfl) (by simp) (AllReady.cons (by simp only [List.getElem?_toArray, List.getElem?_cons_succ, List.getElem?_cons_zero]; rfl) (fun K hK => ?_) AllReady.nil)
                go_simp
                refine (entry_must hM5.out bx1 bx2 bx3 bx4 hI1.out hI2.out hI3.out hI4.out hbd.ll).mono ?_
                rintro e uz ⟨⟨r, rfl⟩, lstz, hRMz, hbz, hkz⟩
                refine hK _ _ ?_
                clear hK K
                refine wpAny_done (by kernel_rfl) ?_ _
                clear x50 x51 x60 x61 hX5 hX6
                go_wp2
                go_ret
                refine ⟨rfl, lstz, _, _, hRMz, ?_, ?_⟩
                · exact (hBx5.out.alloc (Nat.le_trans hBw hBx5.out.size) _).trans hbz
                · exact (hKx5.out.alloc _).trans hkz
      refine AllReady.cons (by simp only [List.getElem?_toArray, List.getElem?_cons_succ, List.getElem?_cons_zero]; rfl) (fun K hK => ?_) AllReady.nil
      · go_simp
        refine hK _ _ ?_
        clear hK K
        refine wpAny_ready (rs := [4]) (by kernel_rfl) (by simp) ?_
        refine AllReady.cons (by simp only [List.getElem?_toArray, List.getElem?_cons_succ, List.getElem?_cons_zero]; rfl) (fun K hK => ?_) AllReady.nil
        · go_simp
          refine (Word_any wName _).mono ?_
          rintro e u2 ⟨bx2, rfl, hx2, hu2⟩
          have hM2 := hide (hM1.out.new hu2)
          have hI1 := hide (hI1.out.kept (KT.new [] hu2) (by simp))
          have hI2 : Hid (IsIt u2 R (.word wName) ⟨8, .func 45, #[], #[.pointer (some ⟨bx2, 0, none⟩)]⟩) := ⟨bx2, rfl, hx2⟩
          have hBx2 := hide (below_ext hBx1.out hBw hu2)
          have hKx2 := hide (hKx1.out.trans (KT.new TS hu2))
          have hX5 := (hu2.block _ (lt_of_block hX5)).trans hX5
          have hX6 := (hu2.block _ (lt_of_block hX6)).trans hX6
          clear x50 x51 x60 x61
          obtain ⟨x50, x51⟩ := two_cells hX5
          obtain ⟨x60, x61⟩ := two_cells hX6
          refine hK _ _ ?_
          clear hK K
          refine wpAny_ready (rs := [6]) (by kernel_rfl) (by simp) ?_
          refine AllReady.cons (by simp only [List.getElem?_toArray, List.getElem?_cons_succ, List.getElem?_cons_zero]; rfl) (fun K hK => ?_) AllReady.nil
          · go_simp
            refine (Word_any wNode _).mono ?_
            rintro e u3 ⟨bx3, rfl, hx3, hu3⟩
            have hM3 := hide (hM2.out.new hu3)
            have hI1 := hide (hI1.out.kept (KT.new [] hu3) (by simp))
            have hI2 := hide (hI2.out.kept (KT.new [] hu3) (by simp))
            have hI3 : Hid (IsIt u3 R (.word wNode) ⟨8, .func 45, #[], #[.pointer (some ⟨bx3, 0, none⟩)]⟩) := ⟨bx3, rfl, hx3⟩
            have hBx3 := hide (below_ext hBx2.out hBw hu3)
            have hKx3 := hide (hKx2.out.trans (KT.new TS hu3))
            have hX5 := (hu3.block _ (lt_of_block hX5)).trans hX5
            have hX6 := (hu3.block _ (lt_of_block hX6)).trans hX6
            clear x50 x51 x60 x61
            obtain ⟨x50, x51⟩ := two_cells hX5
            obtain ⟨x60, x61⟩ := two_cells hX6
            refine hK _ _ ?_
            clear hK K
            refine wpAny_ready (rs := [8]) (by kernel_rfl) (by simp) ?_
            refine AllReady.cons (by simp only [List.getElem?_toArray, List.getElem?_cons_succ, List.getElem?_cons_zero]; rfl) (fun K hK => ?_) AllReady.nil
            · go_simp
              refine (Word_any wClose _).mono ?_
              rintro e u4 ⟨bx4, rfl, hx4, hu4⟩
              have hM4 := hide (hM3.out.new hu4)
              have hI1 := hide (hI1.out.kept (KT.new [] hu4) (by simp))
              have hI2 := hide (hI2.out.kept (KT.new [] hu4) (by simp))
              have hI3 := hide (hI3.out.kept (KT.new [] hu4) (by simp))
              have hI4 : Hid (IsIt u4 R (.word wClose) ⟨8, .func 45, #[], #[.pointer (some ⟨bx4, 0, none⟩)]⟩) := ⟨bx4, rfl, hx4⟩
              have hBx4 := hide (below_ext hBx3.out hBw hu4)
              have hKx4 := hide (hKx3.out.trans (KT.new TS hu4))
              have hX5 := (hu4.block _ (lt_of_block hX5)).trans hX5
              have hX6 := (hu4.block _ (lt_of_block hX6)).trans hX6
              clear x50 x51 x60 x61
              obtain ⟨x50, x51⟩ := two_cells hX5
              obtain ⟨x60, x61⟩ := two_cells hX6
              refine hK _ _ ?_
              clear hK K
              refine wpAny_ready (rs := [11]) (by kernel_rfl) (by simp) ?_
              refine AllReady.cons (by simp only [List.getElem?_toArray, List.getElem?_cons_succ, List.getElem?_cons_zero]; rfl) (fun K hK => ?_) AllReady.nil
              · go_simp
                refine (Words_any (.func 56) _ _ _).mono ?_
                rintro e u5 ⟨rfl, hu5⟩
                have hM5 := hide (hM4.out.new hu5)
                have hI1 := hide (hI1.out.kept (KT.new [] hu5) (by simp))
                have hI2 := hide (hI2.out.kept (KT.new [] hu5) (by simp))
                have hI3 := hide (hI3.out.kept (KT.new [] hu5) (by simp))
                have hI4 := hide (hI4.out.kept (KT.new [] hu5) (by simp))
                have hI5 : Hid (IsIt u5 R (.inDir) ⟨8, .func 56, #[.pointer (some ⟨R, 0, none⟩)], #[]⟩) := rfl
                have hBx5 := hide (below_ext hBx4.out hBw hu5)
                have hKx5 := hide (hKx4.out.trans (KT.new TS hu5))
                have hX5 := (hu5.block _ (lt_of_block hX5)).trans hX5
                have hX6 := (hu5.block _ (lt_of_block hX6)).trans hX6
                clear x50 x51 x60 x61
                obtain ⟨x50, x51⟩ := two_cells hX5
                obtain ⟨x60, x61⟩ := two_cells hX6
                refine hK _ _ ?_
                clear hK K
                refine wpAny_ready (rs := [12]) (by kernel_rfl) (by simp) (AllReady.cons (by simp only [List.getElem?_toArray, List.getElem?_cons_succ, List.getElem?_cons_zero]; rfl) (fun K hK => ?_) AllReady.nil)
                go_simp
                refine hK _ _ ?_
                clear hK K
                refine wpAny_ready (rs := [13]) (by kernel_rfl) (by simp) (AllReady.cons (by simp only [List.getElem?_toArray, List.getElem?_cons_succ, List.getElem?_cons_zero]; rfl) (fun K hK => ?_) AllReady.nil)
                go_simp
                refine (entry_must hM5.out bx1 bx2 bx3 bx4 hI1.out hI2.out hI3.out hI4.out hbd.ll).mono ?_
                rintro e uz ⟨⟨r, rfl⟩, lstz, hRMz, hbz, hkz⟩
                refine hK _ _ ?_
                clear hK K
                refine wpAny_done (by kernel_rfl) ?_ _
                clear x50 x51 x60 x61 hX5 hX6
                go_wp2
                go_ret
                refine ⟨rfl, lstz, _, _, hRMz, ?_, ?_⟩
                · exact (hBx5.out.alloc (Nat.le_trans hBw hBx5.out.size) _).trans hbz
                · exact (hKx5.out.alloc _).trans hkz
    refine AllReady.cons (by simp only [List.getElem?_toArray, List.getElem?_cons_succ, List.getElem?_cons_zero]; rfl) (fun K hK => ?_) AllReady.nil
    · go_simp
      refine hK _ _ ?_
      clear hK K
      refine wpAny_ready (rs := [3]) (by kernel_rfl) (by simp) ?_
      refine AllReady.cons (by simp only [List.getElem?_toArray, List.getElem?_cons_succ, List.getElem?_cons_zero]; rfl) (fun K hK => ?_) AllReady.nil
      · go_simp
        refine (Word_any wOpen _).mono ?_
        rintro e u1 ⟨bx1, rfl, hx1, hu1⟩
        have hM1 := hide (hM0.out.new hu1)
        have hI1 : Hid (IsIt u1 R (.word wOpen) ⟨8, .func 45, #[], #[.pointer (some ⟨bx1, 0, none⟩)]⟩) := ⟨bx1, rfl, hx1⟩
        have hBx1 := hide (below_ext hBx0.out hBw hu1)
        have hKx1 := hide (hKx0.out.trans (KT.new TS hu1))
        have hX5 := (hu1.block _ (lt_of_block hX5)).trans hX5
        have hX6 := (hu1.block _ (lt_of_block hX6)).trans hX6
        clear x50 x51 x60 x61
        obtain ⟨x50, x51⟩ := two_cells hX5
        obtain ⟨x60, x61⟩ := two_cells hX6
        refine hK _ _ ?_
        clear hK K
        refine wpAny_ready (rs := [4]) (by kernel_rfl) (by simp) ?_
        refine AllReady.cons (by simp only [List.getElem?_toArray, List.getElem?_cons_succ, List.getElem?_cons_zero]; rfl) (fun K hK => ?_) AllReady.nil
        · go_simp
          refine (Word_any wName _).mono ?_
          rintro e u2 ⟨bx2, rfl, hx2, hu2⟩
          have hM2 := hide (hM1.out.new hu2)
          have hI1 := hide (hI1.out.kept (KT.new [] hu2) (by simp))
          have hI2 : Hid (IsIt u2 R (.word wName) ⟨8, .func 45, #[], #[.pointer (some ⟨bx2, 0, none⟩)]⟩) := ⟨bx2, rfl, hx2⟩
          have hBx2 := hide (below_ext hBx1.out hBw hu2)
          have hKx2 := hide (hKx1.out.trans (KT.new TS hu2))
          have hX5 := (hu2.block _ (lt_of_block hX5)).trans hX5
          have hX6 := (hu2.block _ (lt_of_block hX6)).trans hX6
          clear x50 x51 x60 x61
          obtain ⟨x50, x51⟩ := two_cells hX5
          obtain ⟨x60, x61⟩ := two_cells hX6
          refine hK _ _ ?_
          clear hK K
          refine wpAny_ready (rs := [6]) (by kernel_rfl) (by simp) ?_
          refine AllReady.cons (by simp only [List.getElem?_toArray, List.getElem?_cons_succ, List.getElem?_cons_zero]; rfl) (fun K hK => ?_) AllReady.nil
          · go_simp
            refine (Word_any wNode _).mono ?_
            rintro e u3 ⟨bx3, rfl, hx3, hu3⟩
            have hM3 := hide (hM2.out.new hu3)
            have hI1 := hide (hI1.out.kept (KT.new [] hu3) (by simp))
            have hI2 := hide (hI2.out.kept (KT.new [] hu3) (by simp))
            have hI3 : Hid (IsIt u3 R (.word wNode) ⟨8, .func 45, #[], #[.pointer (some ⟨bx3, 0, none⟩)]⟩) := ⟨bx3, rfl, hx3⟩
            have hBx3 := hide (below_ext hBx2.out hBw hu3)
            have hKx3 := hide (hKx2.out.trans (KT.new TS hu3))
            have hX5 := (hu3.block _ (lt_of_block hX5)).trans hX5
            have hX6 := (hu3.block _ (lt_of_block hX6)).trans hX6
            clear x50 x51 x60 x61
            obtain ⟨x50, x51⟩ := two_cells hX5
            obtain ⟨x60, x61⟩ := two_cells hX6
            refine hK _ _ ?_
            clear hK K
            refine wpAny_ready (rs := [8]) (by kernel_rfl) (by simp) ?_
            refine AllReady.cons (by simp only [List.getElem?_toArray, List.getElem?_cons_succ, List.getElem?_cons_zero]; rfl) (fun K hK => ?_) AllReady.nil
            · go_simp
              refine (Word_any wClose _).mono ?_
              rintro e u4 ⟨bx4, rfl, hx4, hu4⟩
              have hM4 := hide (hM3.out.new hu4)
              have hI1 := hide (hI1.out.kept (KT.new [] hu4) (by simp))
              have hI2 := hide (hI2.out.kept (KT.new [] hu4) (by simp))
              have hI3 := hide (hI3.out.kept (KT.new [] hu4) (by simp))
              have hI4 : Hid (IsIt u4 R (.word wClose) ⟨8, .func 45, #[], #[.pointer (some ⟨bx4, 0, none⟩)]⟩) := ⟨bx4, rfl, hx4⟩
              have hBx4 := hide (below_ext hBx3.out hBw hu4)
              have hKx4 := hide (hKx3.out.trans (KT.new TS hu4))
              have hX5 := (hu4.block _ (lt_of_block hX5)).trans hX5
              have hX6 := (hu4.block _ (lt_of_block hX6)).trans hX6
              clear x50 x51 x60 x61
              obtain ⟨x50, x51⟩ := two_cells hX5
              obtain ⟨x60, x61⟩ := two_cells hX6
              refine hK _ _ ?_
              clear hK K
              refine wpAny_ready (rs := [11]) (by kernel_rfl) (by simp) ?_
              refine AllReady.cons (by simp only [List.getElem?_toArray, List.getElem?_cons_succ, List.getElem?_cons_zero]; rfl) (fun K hK => ?_) AllReady.nil
              · go_simp
                refine (Words_any (.func 56) _ _ _).mono ?_
                rintro e u5 ⟨rfl, hu5⟩
                have hM5 := hide (hM4.out.new hu5)
                have hI1 := hide (hI1.out.kept (KT.new [] hu5) (by simp))
                have hI2 := hide (hI2.out.kept (KT.new [] hu5) (by simp))
                have hI3 := hide (hI3.out.kept (KT.new [] hu5) (by simp))
                have hI4 := hide (hI4.out.kept (KT.new [] hu5) (by simp))
                have hI5 : Hid (IsIt u5 R (.inDir) ⟨8, .func 56, #[.pointer (some ⟨R, 0, none⟩)], #[]⟩) := rfl
                have hBx5 := hide (below_ext hBx4.out hBw hu5)
                have hKx5 := hide (hKx4.out.trans (KT.new TS hu5))
                have hX5 := (hu5.block _ (lt_of_block hX5)).trans hX5
                have hX6 := (hu5.block _ (lt_of_block hX6)).trans hX6
                clear x50 x51 x60 x61
                obtain ⟨x50, x51⟩ := two_cells hX5
                obtain ⟨x60, x61⟩ := two_cells hX6
                refine hK _ _ ?_
                clear hK K
                refine wpAny_ready (rs := [12]) (by kernel_rfl) (by simp) (AllReady.cons (by simp only [List.getElem?_toArray, List.getElem?_cons_succ, List.getElem?_cons_zero]; rfl) (fun K hK => ?_) AllReady.nil)
                go_simp
                refine hK _ _ ?_
                clear hK K
                refine wpAny_ready (rs := [13]) (by kernel_rfl) (by simp) (AllReady.cons (by simp only [List.getElem?_toArray, List.getElem?_cons_succ, List.getElem?_cons_zero]; rfl) (fun K hK => ?_) AllReady.nil)
                go_simp
                refine (entry_must hM5.out bx1 bx2 bx3 bx4 hI1.out hI2.out hI3.out hI4.out hbd.ll).mono ?_
                rintro e uz ⟨⟨r, rfl⟩, lstz, hRMz, hbz, hkz⟩
                refine hK _ _ ?_
                clear hK K
                refine wpAny_done (by kernel_rfl) ?_ _
                clear x50 x51 x60 x61 hX5 hX6
                go_wp2
                go_ret
                refine ⟨rfl, lstz, _, _, hRMz, ?_, ?_⟩
                · exact (hBx5.out.alloc (Nat.le_trans hBw hBx5.out.size) _).trans hbz
                · exact (hKx5.out.alloc _).trans hkz
  refine AllReady.cons (by simp only [List.getElem?_toArray, List.getElem?_cons_succ, List.getElem?_cons_zero]; rfl) (fun K hK => ?_) AllReady.nil
  · go_simp
    refine hK _ _ ?_
    clear hK K
    refine wpAny_ready (rs := [3, 5]) (by kernel_rfl) (by simp) ?_
    refine AllReady.cons (by simp only [List.getElem?_toArray, List.getElem?_cons_succ, List.getElem?_cons_zero]; rfl) (fun K hK => ?_) ?_
    · go_simp
      refine (Word_any wOpen _).mono ?_
      rintro e u1 ⟨bx1, rfl, hx1, hu1⟩
      have hM1 := hide (hM0.out.new hu1)
      have hI1 : Hid (IsIt u1 R (.word wOpen) ⟨8, .func 45, #[], #[.pointer (some ⟨bx1, 0, none⟩)]⟩) := ⟨bx1, rfl, hx1⟩
      have hBx1 := hide (below_ext hBx0.out hBw hu1)
      have hKx1 := hide (hKx0.out.trans (KT.new TS hu1))
      have hX5 := (hu1.block _ (lt_of_block hX5)).trans hX5
      have hX6 := (hu1.block _ (lt_of_block hX6)).trans hX6
      clear x50 x51 x60 x61
      obtain ⟨x50, x51⟩ := two_cells hX5
      obtain ⟨x60, x61⟩ := two_cells hX6
      refine hK _ _ ?_
      clear hK K
      refine wpAny_ready (rs := [4, 5]) (by kernel_rfl) (by simp) ?_
      refine AllReady.cons (by simp only [List.getElem?_toArray, List.getElem?_cons_succ, List.getElem?_cons_zero]; rfl) (fun K hK => ?_) ?_
      · go_simp
        refine (Word_any wName _).mono ?_
        rintro e u2 ⟨bx2, rfl, hx2, hu2⟩
        have hM2 := hide (hM1.out.new hu2)
        have hI1 := hide (hI1.out.kept (KT.new [] hu2) (by simp))
        have hI2 : Hid (IsIt u2 R (.word wName) ⟨8, .func 45, #[], #[.pointer (some ⟨bx2, 0, none⟩)]⟩) := ⟨bx2, rfl, hx2⟩
        have hBx2 := hide (below_ext hBx1.out hBw hu2)
        have hKx2 := hide (hKx1.out.trans (KT.new TS hu2))
        have hX5 := (hu2.block _ (lt_of_block hX5)).trans hX5
        have hX6 := (hu2.block _ (lt_of_block hX6)).trans hX6
        clear x50 x51 x60 x61
        obtain ⟨x50, x51⟩ := two_cells hX5
        obtain ⟨x60, x61⟩ := two_cells hX6
        refine hK _ _ ?_
        clear hK K
        refine wpAny_ready (rs := [5, 6]) (by kernel_rfl) (by simp) ?_
        refine AllReady.cons (by simp only [List.getElem?_toArray, List.getElem?_cons_succ, List.getElem?_cons_zero]; rfl) (fun K hK => ?_) ?_
        · go_simp
          refine hK _ _ ?_
          clear hK K
          refine wpAny_ready (rs := [6]) (by kernel_rfl) (by simp) ?_
          refine AllReady.cons (by simp only [List.getElem?_toArray, List.getElem?_cons_succ, List.getElem?_cons_zero]; rfl) (fun K hK => ?_) AllReady.nil
          · go_simp
            refine (Word_any wNode _).mono ?_
            rintro e u3 ⟨bx3, rfl, hx3, hu3⟩
            have hM3 := hide (hM2.out.new hu3)
            have hI1 := hide (hI1.out.kept (KT.new [] hu3) (by simp))
            have hI2 := hide (hI2.out.kept (KT.new [] hu3) (by simp))
            have hI3 : Hid (IsIt u3 R (.word wNode) ⟨8, .func 45, #[], #[.pointer (some ⟨bx3, 0, none⟩)]⟩) := ⟨bx3, rfl, hx3⟩
            have hBx3 := hide (below_ext hBx2.out hBw hu3)
            have hKx3 := hide (hKx2.out.trans (KT.new TS hu3))
            have hX5 := (hu3.block _ (lt_of_block hX5)).trans hX5
            have hX6 := (hu3.block _ (lt_of_block hX6)).trans hX6
            clear x50 x51 x60 x61
            obtain ⟨x50, x51⟩ := two_cells hX5
            obtain ⟨x60, x61⟩ := two_cells hX6
            refine hK _ _ ?_
            clear hK K
            refine wpAny_ready (rs := [8]) (by kernel_rfl) (by simp) ?_
            refine AllReady.cons (by simp only [List.getElem?_toArray, List.getElem?_cons_succ, List.getElem?_cons_zero]; rfl) (fun K hK => ?_) AllReady.nil
            · go_simp
              refine (Word_any wClose _).mono ?_
              rintro e u4 ⟨bx4, rfl, hx4, hu4⟩
              have hM4 := hide (hM3.out.new hu4)
              have hI1 := hide (hI1.out.kept (KT.new [] hu4) (by simp))
              have hI2 := hide (hI2.out.kept (KT.new [] hu4) (by simp))
              have hI3 := hide (hI3.out.kept (KT.new [] hu4) (by simp))
              have hI4 : Hid (IsIt u4 R (.word wClose) ⟨8, .func 45, #[], #[.pointer (some ⟨bx4, 0, none⟩)]⟩) := ⟨bx4, rfl, hx4⟩
              have hBx4 := hide (below_ext hBx3.out hBw hu4)
              have hKx4 := hide (hKx3.out.trans (KT.new TS hu4))
              have hX5 := (hu4.block _ (lt_of_block hX5)).trans hX5
              have hX6 := (hu4.block _ (lt_of_block hX6)).trans hX6
              clear x50 x51 x60 x61
              obtain ⟨x50, x51⟩ := two_cells hX5
              obtain ⟨x60, x61⟩ := two_cells hX6
              refine hK _ _ ?_
              clear hK K
              refine wpAny_ready (rs := [11]) (by kernel_rfl) (by simp) ?_
              refine AllReady.cons (by simp only [List.getElem?_toArray, List.getElem?_cons_succ, List.getElem?_cons_zero]; rfl) (fun K hK => ?_) AllReady.nil
              · go_simp
                refine (Words_any (.func 56) _ _ _).mono ?_
                rintro e u5 ⟨rfl, hu5⟩
                have hM5 := hide (hM4.out.new hu5)
                have hI1 := hide (hI1.out.kept (KT.new [] hu5) (by simp))
                have hI2 := hide (hI2.out.kept (KT.new [] hu5) (by simp))
                have hI3 := hide (hI3.out.kept (KT.new [] hu5) (by simp))
                have hI4 := hide (hI4.out.kept (KT.new [] hu5) (by simp))
                have hI5 : Hid (IsIt u5 R (.inDir) ⟨8, .func 56, #[.pointer (some ⟨R, 0, none⟩)], #[]⟩) := rfl
                have hBx5 := hide (below_ext hBx4.out hBw hu5)
                have hKx5 := hide (hKx4.out.trans (KT.new TS hu5))
                have hX5 := (hu5.block _ (lt_of_block hX5)).trans hX5
                have hX6 := (hu5.block _ (lt_of_block hX6)).trans hX6
                clear x50 x51 x60 x61
                obtain ⟨x50, x51⟩ := two_cells hX5
                obtain ⟨x60, x61⟩ := two_cells hX6
                refine hK _ _ ?_
                clear hK K
                refine wpAny_ready (rs := [12]) (by kernel_rfl) (by simp) (AllReady.cons (by simp only [List.getElem?_toArray, List.getElem?_cons_succ, List.getElem?_cons_zero]; rfl) (fun K hK => ?_) AllReady.nil)
                go_simp
                refine hK _ _ ?_
                clear hK K
                refine wpAny_ready (rs := [13]) (by kernel_rfl) (by simp) (AllReady.cons (by simp only [List.getElem?_toArray, List.getElem?_cons_succ, List.getElem?_cons_zero]; rfl) (fun K hK => ?_) AllReady.nil)
                go_simp
                refine (entry_must hM5.out bx1 bx2 bx3 bx4 hI1.out hI2.out hI3.out hI4.out hbd.ll).mono ?_
                rintro e uz ⟨⟨r, rfl⟩, lstz, hRMz, hbz, hkz⟩
                refine hK _ _ ?_
                clear hK K
                refine wpAny_done (by kernel_rfl) ?_ _
                clear x50 x51 x60 x61 hX5 hX6
                go_wp2
                go_ret
                refine ⟨rfl, lstz, _, _, hRMz, ?_, ?_⟩
                · exact (hBx5.out.alloc (Nat.le_trans hBw hBx5.out.size) _).trans hbz
                · exact (hKx5.out.alloc _).trans hkz
        refine AllReady.cons (by simp only [List.getElem?_toArray, List.getElem?_cons_succ, List.getElem?_cons_zero]; rfl) (fun K hK => ?_) AllReady.nil
        · go_simp
          refine (Word_any wNode _).mono ?_
          rintro e u3 ⟨bx3, rfl, hx3, hu3⟩
          have hM3 := hide (hM2.out.new hu3)
          have hI1 := hide (hI1.out.kept (KT.new [] hu3) (by simp))
          have hI2 := hide (hI2.out.kept (KT.new [] hu3) (by simp))
          have hI3 : Hid (IsIt u3 R (.word wNode) ⟨8, .func 45, #[], #[.pointer (some ⟨bx3, 0, none⟩)]⟩) := ⟨bx3, rfl, hx3⟩
          have hBx3 := hide (below_ext hBx2.out hBw hu3)
          have hKx3 := hide (hKx2.out.trans (KT.new TS hu3))
          have hX5 := (hu3.block _ (lt_of_block hX5)).trans hX5
          have hX6 := (hu3.block _ (lt_of_block hX6)).trans hX6
          clear x50 x51 x60 x61
          obtain ⟨x50, x51⟩ := two_cells hX5
          obtain ⟨x60, x61⟩ := two_cells hX6
          refine hK _ _ ?_
          clear hK K
          refine wpAny_ready (rs := [5, 8]) (by kernel_rfl) (by simp) ?_
          refine AllReady.cons (by simp only [List.getElem?_toArray, List.getElem?_cons_succ, List.getElem?_cons_zero]; rfl) (fun K hK => ?_) ?_
          · go_simp
            refine hK _ _ ?_
            clear hK K
            refine wpAny_ready (rs := [8]) (by kernel_rfl) (by simp) ?_
            refine AllReady.cons (by simp only [List.getElem?_toArray, List.getElem?_cons_succ, List.getElem?_cons_zero]; rfl) (fun K hK => ?_) AllReady.nil
            · go_simp
              refine (Word_any wClose _).mono ?_
              rintro e u4 ⟨bx4, rfl, hx4, hu4⟩
              have hM4 := hide (hM3.out.new hu4)
              have hI1 := hide (hI1.out.kept (KT.new [] hu4) (by simp))
              have hI2 := hide (hI2.out.kept (KT.new [] hu4) (by simp))
              have hI3 := hide (hI3.out.kept (KT.new [] hu4) (by simp))
              have hI4 : Hid (IsIt u4 R (.word wClose) ⟨8, .func 45, #[], #[.pointer (some ⟨bx4, 0, none⟩)]⟩) := ⟨bx4, rfl, hx4⟩
              have hBx4 := hide (below_ext hBx3.out hBw hu4)
              have hKx4 := hide (hKx3.out.trans (KT.new TS hu4))
              have hX5 := (hu4.block _ (lt_of_block hX5)).trans hX5
              have hX6 := (hu4.block _ (lt_of_block hX6)).trans hX6
              clear x50 x51 x60 x61
              obtain ⟨x50, x51⟩ := two_cells hX5
              obtain ⟨x60, x61⟩ := two_cells hX6
              refine hK _ _ ?_
              clear hK K
              refine wpAny_ready (rs := [11]) (by kernel_rfl) (by simp) ?_
              refine AllReady.cons (by simp only [List.getElem?_toArray, List.getElem?_cons_succ, List.getElem?_cons_zero]; rfl) (fun K hK => ?_) AllReady.nil
              · go_simp
                refine (Words_any (.func 56) _ _ _).mono ?_
                rintro e u5 ⟨rfl, hu5⟩
                have hM5 := hide (hM4.out.new hu5)
                have hI1 := hide (hI1.out.kept (KT.new [] hu5) (by simp))
                have hI2 := hide (hI2.out.kept (KT.new [] hu5) (by simp))
                have hI3 := hide (hI3.out.kept (KT.new [] hu5) (by simp))
                have hI4 := hide (hI4.out.kept (KT.new [] hu5) (by simp))
                have hI5 : Hid (IsIt u5 R (.inDir) ⟨8, .func 56, #[.pointer (some ⟨R, 0, none⟩)], #[]⟩) := rfl
                have hBx5 := hide (below_ext hBx4.out hBw hu5)
                have hKx5 := hide (hKx4.out.trans (KT.new TS hu5))
                have hX5 := (hu5.block _ (lt_of_block hX5)).trans hX5
                have hX6 := (hu5.block _ (lt_of_block hX6)).trans hX6
                clear x50 x51 x60 x61
                obtain ⟨x50, x51⟩ := two_cells hX5
                obtain ⟨x60, x61⟩ := two_cells hX6
                refine hK _ _ ?_
                clear hK K
                refine wpAny_ready (rs := [12]) (by kernel_rfl) (by simp) (AllReady.cons (by simp only [List.getElem?_toArray, List.getElem?_cons_succ, List.getElem?_cons_zero]; rfl) (fun K hK => ?_) AllReady.nil)
                go_simp
                refine hK _ _ ?_
                clear hK K
                refine wpAny_ready (rs := [13]) (by kernel_rfl) (by simp) (AllReady.cons (by simp only [List.getElem?_toArray, List.getElem?_cons_succ, List.getElem?_cons_zero]; rfl) (fun K hK => ?_) AllReady.nil)
                go_simp
                refine (entry_must hM5.out bx1 bx2 bx3 bx4 hI1.out hI2.out hI3.out hI4.out hbd.ll).mono ?_
                rintro e uz ⟨⟨r, rfl⟩, lstz, hRMz, hbz, hkz⟩
                refine hK _ _ ?_
                clear hK K
                refine wpAny_done (by kernel_rfl) ?_ _
                clear x50 x51 x60 x61 hX5 hX6
                go_wp2
                go_ret
                refine ⟨rfl, lstz, _, _, hRMz, ?_, ?_⟩
                · exact (hBx5.out.alloc (Nat.le_trans hBw hBx5.out.size) _).trans hbz
                · exact (hKx5.out.alloc _).trans hkz
          refine AllReady.cons (by simp only [List.getElem?_toArray, List.getElem?_cons_succ, List.getElem?_cons_zero]; rfl) (fun K hK => ?_) AllReady.nil
          · go_simp
            refine (Word_any wClose _).mono ?_
            rintro e u4 ⟨bx4, rfl, hx4, hu4⟩
            have hM4 := hide (hM3.out.new hu4)
            have hI1 := hide (hI1.out.kept (KT.new [] hu4) (by simp))
            have hI2 := hide (hI2.out.kept (KT.new [] hu4) (by simp))
            have hI3 := hide (hI3.out.kept (KT.new [] hu4) (by simp))
            have hI4 : Hid (IsIt u4 R (.word wClose) ⟨8, .func 45, #[], #[.pointer (some ⟨bx4, 0, none⟩)]⟩) := ⟨bx4, rfl, hx4⟩
            have hBx4 := hide (below_ext hBx3.out hBw hu4)
            have hKx4 := hide (hKx3.out.trans (KT.new TS hu4))
            have hX5 := (hu4.block _ (lt_of_block hX5)).trans hX5
            have hX6 := (hu4.block _ (lt_of_block hX6)).trans hX6
            clear x50 x51 x60 x61
            obtain ⟨x50, x51⟩ := two_cells hX5
            obtain ⟨x60, x61⟩ := two_cells hX6
            refine hK _ _ ?_
            clear hK K
            refine wpAny_ready (rs := [5, 11]) (by kernel_rfl) (by simp) ?_
            refine AllReady.cons (by simp only [List.getElem?_toArray, List.getElem?_cons_succ, List.getElem?_cons_zero]; rfl) (fun K hK => ?_) ?_
            · go_simp
              refine hK _ _ ?_
              clear hK K
              refine wpAny_ready (rs := [11]) (by kernel_rfl) (by simp) ?_
              refine AllReady.cons (by simp only [List.getElem?_toArray, List.getElem?_cons_succ, List.getElem?_cons_zero]; rfl) (fun K hK => ?_) AllReady.nil
              · go_simp
                refine (Words_any (.func 56) _ _ _).mono ?_
                rintro e u5 ⟨rfl, hu5⟩
                have hM5 := hide (hM4.out.new hu5)
                have hI1 := hide (hI1.out.kept (KT.new [] hu5) (by simp))
                have hI2 := hide (hI2.out.kept (KT.new [] hu5) (by simp))
                have hI3 := hide (hI3.out.kept (KT.new [] hu5) (by simp))
                have hI4 := hide (hI4.out.kept (KT.new [] hu5) (by simp))
                have hI5 : Hid (IsIt u5 R (.inDir) ⟨8, .func 56, #[.pointer (some ⟨R, 0, none⟩)], #[]⟩) := rfl
                have hBx5 := hide (below_ext hBx4.out hBw hu5)
                have hKx5 := hide (hKx4.out.trans (KT.new TS hu5))
                have hX5 := (hu5.block _ (lt_of_block hX5)).trans hX5
                have hX6 := (hu5.block _ (lt_of_block hX6)).trans hX6
                clear x50 x51 x60 x61
                obtain ⟨x50, x51⟩ := two_cells hX5
                obtain ⟨x60, x61⟩ := two_cells hX6
                refine hK _ _ ?_
                clear hK K
                refine wpAny_ready (rs := [12]) (by kernel_rfl) (by simp) (AllReady.cons (by simp only [List.getElem?_toArray, List.getElem?_cons_succ, List.getElem?_cons_zero]; rfl) (fun K hK => ?_) AllReady.nil)
                go_simp
                refine hK _ _ ?_
                clear hK K
                refine wpAny_ready (rs := [13]) (by kernel_rfl) (by simp) (AllReady.cons (by simp only [List.getElem?_toArray, List.getElem?_cons_succ, List.getElem?_cons_zero]; rfl) (fun K hK => ?_) AllReady.nil)
                go_simp
                refine (entry_must hM5.out bx1 bx2 bx3 bx4 hI1.out hI2.out hI3.out hI4.out hbd.ll).mono ?_
                rintro e uz ⟨⟨r, rfl⟩, lstz, hRMz, hbz, hkz⟩
                refine hK _ _ ?_
                clear hK K
                refine wpAny_done (by kernel_rfl) ?_ _
                clear x50 x51 x60 x61 hX5 hX6
                go_wp2
                go_ret
                refine ⟨rfl, lstz, _, _, hRMz, ?_, ?_⟩
                · exact (hBx5.out.alloc (Nat.le_trans hBw hBx5.out.size) _).trans hbz
                · exact (hKx5.out.alloc _).trans hkz
            refine AllReady.cons (by simp only [List.getElem?_toArray, List.getElem?_cons_succ, List.getElem?_cons_zero]; rfl) (fun K hK => ?_) AllReady.nil
            · go_simp
              refine (Words_any (.func 56) _ _ _).mono ?_
              rintro e u5 ⟨rfl, hu5⟩
              have hM5 := hide (hM4.out.new hu5)
              have hI1 := hide (hI1.out.kept (KT.new [] hu5) (by simp))
              have hI2 := hide (hI2.out.kept (KT.new [] hu5) (by simp))
              have hI3 := hide (hI3.out.kept (KT.new [] hu5) (by simp))
              have hI4 := hide (hI4.out.kept (KT.new [] hu5) (by simp))
              have hI5 : Hid (IsIt u5 R (.inDir) ⟨8, .func 56, #[.pointer (some ⟨R, 0, none⟩)], #[]⟩) := rfl
              have hBx5 := hide (below_ext hBx4.out hBw hu5)
              have hKx5 := hide (hKx4.out.trans (KT.new TS hu5))
              have hX5 := (hu5.block _ (lt_of_block hX5)).trans hX5
              have hX6 := (hu5.block _ (lt_of_block hX6)).trans hX6
              clear x50 x51 x60 x61
              obtain ⟨x50, x51⟩ := two_cells hX5
              obtain ⟨x60, x61⟩ := two_cells hX6
              refine hK _ _ ?_
              clear hK K
              refine wpAny_ready (rs := [5]) (by kernel_rfl) (by simp) ?_
              refine AllReady.cons (by simp only [List.getElem?_toArray, List.getElem?_cons_succ, List.getElem?_cons_zero]; rfl) (fun K hK => ?_) AllReady.nil
              · go_simp
                refine hK _ _ ?_
                clear hK K
                refine wpAny_ready (rs := [12]) (by kernel_rfl) (by simp) (AllReady.cons (by simp only [List.getElem?_toArray, List.getElem?_cons_succ, List.getElem?_cons_zero]; rfl) (fun K hK => ?_) AllReady.nil)
                go_simp
                refine hK _ _ ?_
                clear hK K
                refine wpAny_ready (rs := [13]) (by kernel_rfl) (by simp) (AllReady.cons (by simp only [List.getElem?_toArray, List.getElem?_cons_succ, List.getElem?_cons_zero]; rfl) (fun K hK => ?_) AllReady.nil)
                go_simp
                refine (entry_must hM5.out bx1 bx2 bx3 bx4 hI1.out hI2.out hI3.out hI4.out hbd.ll).mono ?_
                rintro e uz ⟨⟨r, rfl⟩, lstz, hRMz, hbz, hkz⟩
                refine hK _ _ ?_
                clear hK K
                refine wpAny_done (by kernel_rfl) ?_ _
                clear x50 x51 x60 x61 hX5 hX6
                go_wp2
                go_ret
                refine ⟨rfl, lstz, _, _, hRMz, ?_, ?_⟩
                · exact (hBx5.out.alloc (Nat.le_trans hBw hBx5.out.size) _).trans hbz
                · exact (hKx5.out.alloc _).trans hkz
      refine AllReady.cons (by simp only [List.getElem?_toArray, List.getElem?_cons_succ, List.getElem?_cons_zero]; rfl) (fun K hK => ?_) AllReady.nil
      · go_simp
        refine hK _ _ ?_
        clear hK K
        refine wpAny_ready (rs := [4]) (by kernel_rfl) (by simp) ?_
        refine AllReady.cons (by simp only [List.getElem?_toArray, List.getElem?_cons_succ, List.getElem?_cons_zero]; rfl) (fun K hK => ?_) AllReady.nil
        · go_simp
          refine (Word_any wName _).mono ?_
          rintro e u2 ⟨bx2, rfl, hx2, hu2⟩
          have hM2 := hide (hM1.out.new hu2)
          have hI1 := hide (hI1.out.kept (KT.new [] hu2) (by simp))
          have hI2 : Hid (IsIt u2 R (.word wName) ⟨8, .func 45, #[], #[.pointer (some ⟨bx2, 0, none⟩)]⟩) := ⟨bx2, rfl, hx2⟩
          have hBx2 := hide (below_ext hBx1.out hBw hu2)
          have hKx2 := hide (hKx1.out.trans (KT.new TS hu2))
          have hX5 := (hu2.block _ (lt_of_block hX5)).trans hX5
          have hX6 := (hu2.block _ (lt_of_block hX6)).trans hX6
          clear x50 x51 x60 x61
          obtain ⟨x50, x51⟩ := two_cells hX5
          obtain ⟨x60, x61⟩ := two_cells hX6
          refine hK _ _ ?_
          clear hK K
          refine wpAny_ready (rs := [6]) (by kernel_rfl) (by simp) ?_
          refine AllReady.cons (by simp only [List.getElem?_toArray, List.getElem?_cons_succ, List.getElem?_cons_zero]; rfl) (fun K hK => ?_) AllReady.nil
          · go_simp
            refine (Word_any wNode _).mono ?_
            rintro e u3 ⟨bx3, rfl, hx3, hu3⟩
            have hM3 := hide (hM2.out.new hu3)
            have hI1 := hide (hI1.out.kept (KT.new [] hu3) (by simp))
            have hI2 := hide (hI2.out.kept (KT.new [] hu3) (by simp))
            have hI3 : Hid (IsIt u3 R (.word wNode) ⟨8, .func 45, #[], #[.pointer (some ⟨bx3, 0, none⟩)]⟩) := ⟨bx3, rfl, hx3⟩
            have hBx3 := hide (below_ext hBx2.out hBw hu3)
            have hKx3 := hide (hKx2.out.trans (KT.new TS hu3))
            have hX5 := (hu3.block _ (lt_of_block hX5)).trans hX5
            have hX6 := (hu3.block _ (lt_of_block hX6)).trans hX6
            clear x50 x51 x60 x61
            obtain ⟨x50, x51⟩ := two_cells hX5
            obtain ⟨x60, x61⟩ := two_cells hX6
            refine hK _ _ ?_
            clear hK K
            refine wpAny_ready (rs := [8]) (by kernel_rfl) (by simp) ?_
            refine AllReady.cons (by simp only [List.getElem?_toArray, List.getElem?_cons_succ, List.getElem?_cons_zero]; rfl) (fun K hK => ?_) AllReady.nil
            · go_simp
              refine (Word_any wClose _).mono ?_
              rintro e u4 ⟨bx4, rfl, hx4, hu4⟩
              have hM4 := hide (hM3.out.new hu4)
              have hI1 := hide (hI1.out.kept (KT.new [] hu4) (by simp))
              have hI2 := hide (hI2.out.kept (KT.new [] hu4) (by simp))
              have hI3 := hide (hI3.out.kept (KT.new [] hu4) (by simp))
              have hI4 : Hid (IsIt u4 R (.word wClose) ⟨8, .func 45, #[], #[.pointer (some ⟨bx4, 0, none⟩)]⟩) := ⟨bx4, rfl, hx4⟩
              have hBx4 := hide (below_ext hBx3.out hBw hu4)
              have hKx4 := hide (hKx3.out.trans (KT.new TS hu4))
              have hX5 := (hu4.block _ (lt_of_block hX5)).trans hX5
              have hX6 := (hu4.block _ (lt_of_block hX6)).trans hX6
              clear x50 x51 x60 x61
              obtain ⟨x50, x51⟩ := two_cells hX5
              obtain ⟨x60, x61⟩ := two_cells hX6
              refine hK _ _ ?_
              clear hK K
              refine wpAny_ready (rs := [11]) (by kernel_rfl) (by simp) ?_
              refine AllReady.cons (by simp only [List.getElem?_toArray, List.getElem?_cons_succ, List.getElem?_cons_zero]; rfl) (fun K hK => ?_) AllReady.nil
              · go_simp
                refine (Words_any (.func 56) _ _ _).mono ?_
                rintro e u5 ⟨rfl, hu5⟩
                have hM5 := hide (hM4.out.new hu5)
                have hI1 := hide (hI1.out.kept (KT.new [] hu5) (by simp))
                have hI2 := hide (hI2.out.kept (KT.new [] hu5) (by simp))
                have hI3 := hide (hI3.out.kept (KT.new [] hu5) (by simp))
                have hI4 := hide (hI4.out.kept (KT.new [] hu5) (by simp))
                have hI5 : Hid (IsIt u5 R (.inDir) ⟨8, .func 56, #[.pointer (some ⟨R, 0, none⟩)], #[]⟩) := rfl
                have hBx5 := hide (below_ext hBx4.out hBw hu5)
                have hKx5 := hide (hKx4.out.trans (KT.new TS hu5))
                have hX5 := (hu5.block _ (lt_of_block hX5)).trans hX5
                have hX6 := (hu5.block _ (lt_of_block hX6)).trans hX6
                clear x50 x51 x60 x61
                obtain ⟨x50, x51⟩ := two_cells hX5
                obtain ⟨x60, x61⟩ := two_cells hX6
                refine hK _ _ ?_
                clear hK K
                refine wpAny_ready (rs := [12]) (by kernel_rfl) (by simp) (AllReady.cons (by simp only [List.getElem?_toArray, List.getElem?_cons_succ, List.getElem?_cons_zero]; rfl) (fun K hK => ?_) AllReady.nil)
                go_simp
                refine hK _ _ ?_
                clear hK K
                refine wpAny_ready (rs := [13]) (by kernel_rfl) (by simp) (AllReady.cons (by simp only [List.getElem?_toArray, List.getElem?_cons_succ, List.getElem?_cons_zero]; rfl) (fun K hK => ?_) AllReady.nil)
                go_simp
                refine (entry_must hM5.out bx1 bx2 bx3 bx4 hI1.out hI2.out hI3.out hI4.out hbd.ll).mono ?_
                rintro e uz ⟨⟨r, rfl⟩, lstz, hRMz, hbz, hkz⟩
                refine hK _ _ ?_
                clear hK K
                refine wpAny_done (by kernel_rfl) ?_ _
                clear x50 x51 x60 x61 hX5 hX6
                go_wp2
                go_ret
                refine ⟨rfl, lstz, _, _, hRMz, ?_, ?_⟩
                · exact (hBx5.out.alloc (Nat.le_trans hBw hBx5.out.size) _).trans hbz
                · exact (hKx5.out.alloc _).trans hkz
    refine AllReady.cons (by simp only [List.getElem?_toArray, List.getElem?_cons_succ, List.getElem?_cons_zero]; rfl) (fun K hK => ?_) AllReady.nil
    · go_simp
      refine hK _ _ ?_
      clear hK K
      refine wpAny_ready (rs := [3]) (by kernel_rfl) (by simp) ?_
      refine AllReady.cons (by simp only [List.getElem?_toArray, List.getElem?_cons_succ, List.getElem?_cons_zero]; rfl) (fun K hK => ?_) AllReady.nil
      · go_simp
        refine (Word_any wOpen _).mono ?_
        rintro e u1 ⟨bx1, rfl, hx1, hu1⟩
        have hM1 := hide (hM0.out.new hu1)
        have hI1 : Hid (IsIt u1 R (.word wOpen) ⟨8, .func 45, #[], #[.pointer (some ⟨bx1, 0, none⟩)]⟩) := ⟨bx1, rfl, hx1⟩
        have hBx1 := hide (below_ext hBx0.out hBw hu1)
        have hKx1 := hide (hKx0.out.trans (KT.new TS hu1))
        have hX5 := (hu1.block _ (lt_of_block hX5)).trans hX5
        have hX6 := (hu1.block _ (lt_of_block hX6)).trans hX6
        clear x50 x51 x60 x61
        obtain ⟨x50, x51⟩ := two_cells hX5
        obtain ⟨x60, x61⟩ := two_cells hX6
        refine hK _ _ ?_
        clear hK K
        refine wpAny_ready (rs := [4]) (by kernel_rfl) (by simp) ?_
        refine AllReady.cons (by simp only [List.getElem?_toArray, List.getElem?_cons_succ, List.getElem?_cons_zero]; rfl) (fun K hK => ?_) AllReady.nil
        · go_simp
          refine (Word_any wName _).mono ?_
          rintro e u2 ⟨bx2, rfl, hx2, hu2⟩
          have hM2 := hide (hM1.out.new hu2)
          have hI1 := hide (hI1.out.kept (KT.new [] hu2) (by simp))
          have hI2 : Hid (IsIt u2 R (.word wName) ⟨8, .func 45, #[], #[.pointer (some ⟨bx2, 0, none⟩)]⟩) := ⟨bx2, rfl, hx2⟩
          have hBx2 := hide (below_ext hBx1.out hBw hu2)
          have hKx2 := hide (hKx1.out.trans (KT.new TS hu2))
          have hX5 := (hu2.block _ (lt_of_block hX5)).trans hX5
          have hX6 := (hu2.block _ (lt_of_block hX6)).trans hX6
          clear x50 x51 x60 x61
          obtain ⟨x50, x51⟩ := two_cells hX5
          obtain ⟨x60, x61⟩ := two_cells hX6
          refine hK _ _ ?_
          clear hK K
          refine wpAny_ready (rs := [6]) (by kernel_rfl) (by simp) ?_
          refine AllReady.cons (by simp only [List.getElem?_toArray, List.getElem?_cons_succ, List.getElem?_cons_zero]; rfl) (fun K hK => ?_) AllReady.nil
          · go_simp
            refine (Word_any wNode _).mono ?_
            rintro e u3 ⟨bx3, rfl, hx3, hu3⟩
            have hM3 := hide (hM2.out.new hu3)
            have hI1 := hide (hI1.out.kept (KT.new [] hu3) (by simp))
            have hI2 := hide (hI2.out.kept (KT.new [] hu3) (by simp))
            have hI3 : Hid (IsIt u3 R (.word wNode) ⟨8, .func 45, #[], #[.pointer (some ⟨bx3, 0, none⟩)]⟩) := ⟨bx3, rfl, hx3⟩
            have hBx3 := hide (below_ext hBx2.out hBw hu3)
            have hKx3 := hide (hKx2.out.trans (KT.new TS hu3))
            have hX5 := (hu3.block _ (lt_of_block hX5)).trans hX5
            have hX6 := (hu3.block _ (lt_of_block hX6)).trans hX6
            clear x50 x51 x60 x61
            obtain ⟨x50, x51⟩ := two_cells hX5
            obtain ⟨x60, x61⟩ := two_cells hX6
            refine hK _ _ ?_
            clear hK K
            refine wpAny_ready (rs := [8]) (by kernel_rfl) (by simp) ?_
            refine AllReady.cons (by simp only [List.getElem?_toArray, List.getElem?_cons_succ, List.getElem?_cons_zero]; rfl) (fun K hK => ?_) AllReady.nil
            · go_simp
              refine (Word_any wClose _).mono ?_
              rintro e u4 ⟨bx4, rfl, hx4, hu4⟩
              have hM4 := hide (hM3.out.new hu4)
              have hI1 := hide (hI1.out.kept (KT.new [] hu4) (by simp))
              have hI2 := hide (hI2.out.kept (KT.new [] hu4) (by simp))
              have hI3 := hide (hI3.out.kept (KT.new [] hu4) (by simp))
              have hI4 : Hid (IsIt u4 R (.word wClose) ⟨8, .func 45, #[], #[.pointer (some ⟨bx4, 0, none⟩)]⟩) := ⟨bx4, rfl, hx4⟩
              have hBx4 := hide (below_ext hBx3.out hBw hu4)
              have hKx4 := hide (hKx3.out.trans (KT.new TS hu4))
              have hX5 := (hu4.block _ (lt_of_block hX5)).trans hX5
              have hX6 := (hu4.block _ (lt_of_block hX6)).trans hX6
              clear x50 x51 x60 x61
              obtain ⟨x50, x51⟩ := two_cells hX5
              obtain ⟨x60, x61⟩ := two_cells hX6
              refine hK _ _ ?_
              clear hK K
              refine wpAny_ready (rs := [11]) (by kernel_rfl) (by simp) ?_
              refine AllReady.cons (by simp only [List.getElem?_toArray, List.getElem?_cons_succ, List.getElem?_cons_zero]; rfl) (fun K hK => ?_) AllReady.nil
              · go_simp
                refine (Words_any (.func 56) _ _ _).mono ?_
                rintro e u5 ⟨rfl, hu5⟩
                have hM5 := hide (hM4.out.new hu5)
                have hI1 := hide (hI1.out.kept (KT.new [] hu5) (by simp))
                have hI2 := hide (hI2.out.kept (KT.new [] hu5) (by simp))
                have hI3 := hide (hI3.out.kept (KT.new [] hu5) (by simp))
                have hI4 := hide (hI4.out.kept (KT.new [] hu5) (by simp))
                have hI5 : Hid (IsIt u5 R (.inDir) ⟨8, .func 56, #[.pointer (some ⟨R, 0, none⟩)], #[]⟩) := rfl
                have hBx5 := hide (below_ext hBx4.out hBw hu5)
                have hKx5 := hide (hKx4.out.trans (KT.new TS hu5))
                have hX5 := (hu5.block _ (lt_of_block hX5)).trans hX5
                have hX6 := (hu5.block _ (lt_of_block hX6)).trans hX6
                clear x50 x51 x60 x61
                obtain ⟨x50, x51⟩ := two_cells hX5
                obtain ⟨x60, x61⟩ := two_cells hX6
                refine hK _ _ ?_
                clear hK K
                refine wpAny_ready (rs := [12]) (by kernel_rfl) (by simp) (AllReady.cons (by simp only [List.getElem?_toArray, List.getElem?_cons_succ, List.getElem?_cons_zero]; rfl) (fun K hK => ?_) AllReady.nil)
                go_simp
                refine hK _ _ ?_
                clear hK K
                refine wpAny_ready (rs := [13]) (by kernel_rfl) (by simp) (AllReady.cons (by simp only [List.getElem?_toArray, List.getElem?_cons_succ, List.getElem?_cons_zero]; rfl) (fun K hK => ?_) AllReady.nil)
                go_simp
                refine (entry_must hM5.out bx1 bx2 bx3 bx4 hI1.out hI2.out hI3.out hI4.out hbd.ll).mono ?_
                rintro e uz ⟨⟨r, rfl⟩, lstz, hRMz, hbz, hkz⟩
                refine hK _ _ ?_
                clear hK K
                refine wpAny_done (by kernel_rfl) ?_ _
                clear x50 x51 x60 x61 hX5 hX6
                go_wp2
                go_ret
                refine ⟨rfl, lstz, _, _, hRMz, ?_, ?_⟩
                · exact (hBx5.out.alloc (Nat.le_trans hBw hBx5.out.size) _).trans hbz
                · exact (hKx5.out.alloc _).trans hkz
end Go.Proofs.YtpbjdfobbnpjfaaDoor
