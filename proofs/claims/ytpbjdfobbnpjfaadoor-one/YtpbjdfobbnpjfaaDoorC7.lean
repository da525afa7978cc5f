/-
  WALKS of the reader, 7: a bracket is taken.
-/
import Derived.Test.YtpbjdfobbnpjfaaDoorC6
namespace Go.Proofs.YtpbjdfobbnpjfaaDoor
open Go.RowKit

theorem own_slice {w : World} {base size n : Nat} {e : TypeId} {v : Value} {xs : List Value} (h : w.ownsRow base e size v n xs) : ∃ a cap, v = .slice a n cap ∧ n ≤ cap := by
  rcases h.2 with ⟨rfl, rfl⟩ | ⟨g, cap, _, hv, _, _, hn, _⟩
  · exact ⟨_, _, rfl, Nat.le_refl _⟩
  · exact ⟨_, cap, hv, hn⟩
theorem open_list : wOpen.toList = [40] := by rw [ByteArray.toList_eq]; rfl
theorem eqB_true' {a b : ByteArray} (h : a = b) : (a.toList == b.toList) = true := by subst h; simp
theorem not_row {w : World} {B e s n : Nat} {v : Value} {xs : List Value} (h : w.ownsRow B e s v n xs) : some w.heap.size ≠ v.ownBlock := fun e' => by have := (h.lt _ e'.symm).2; omega
theorem drewB (w : World) : Below w.heap.size w w.drew := (Below.refl _ w).drew

theorem below_ext {B : Nat} {w a b : World} (h : Below B w a) (hB : B ≤ w.heap.size) (k : Below a.heap.size a b) : Below B w b := h.trans (k.mono (Nat.le_trans hB h.size))
theorem RM.setNodes {B R : Nat} {w w3 : World} {left lst nds drs : Value} {pos : Nat} {list : List It} {g : Gr} (h : RM B R w left lst nds drs pos list g) (hk : KT [37] w w3) (hb : Below B w w3) (nodes' : List Nd) (nds' : Value) (hown : w3.ownsRow B 37 3 nds' nodes'.length (flat3 nodes')) :
    RM B R (w3.setCell ⟨R, 5, none⟩ nds') left lst nds' drs pos list ⟨nodes', g.dirs, g.path⟩ ∧ Below B w (w3.setCell ⟨R, 5, none⟩ nds') ∧ KT TS w (w3.setCell ⟨R, 5, none⟩ nds') := by
  have hR3 := hk _ _ _ _ h.blk (by decide)
  obtain ⟨ivs, h1, h2⟩ := h.its
  have hne : ∀ {e : TypeId} {s n : Nat} {v : Value} {xs : List Value}, w3.ownsRow B e s v n xs → e ≠ 61 → v.ownBlock ≠ some R := fun ho he e => by
    obtain ⟨c, fz, hc⟩ := own_kind ho R e
    rw [hR3] at hc
    injection hc with hc
    injection hc with _ hc _
    exact he hc.symm
  have o1 := own_kt h2 hk (by decide)
  have o2 := own_kt h.dr hk (by decide)
  have hkR : KT TS w (w3.setCell ⟨R, 5, none⟩ nds') := KT.set (hk.mono (by decide)) hR3 (by decide) 5 nds'
  refine ⟨⟨block_set hR3 5 nds', h.BR, ⟨ivs, ?_, ownsRow_setCell_other o1 (hne o1 (by decide)) _⟩, ownsRow_setCell_other hown (hne hown (by decide)) _, ownsRow_setCell_other o2 (hne o2 (by decide)) _⟩, hb.setCell h.BR _, hkR⟩
  exact h1.kept hkR (by decide)
theorem RM.lstNew {B R : Nat} {w : World} {left lst nds drs : Value} {pos : Nat} {list : List It} {g : Gr} (h : RM B R w left lst nds drs pos list g) : some w.heap.size ≠ lst.ownBlock := by
  obtain ⟨ivs, _, h2⟩ := h.its
  exact not_row h2

set_option maxRecDepth 20000 in
set_option maxHeartbeats 2000000 in
theorem takeBracket_any {B R : Nat} {w : World} {left lst nds drs : Value} {pos : Nat} {list : List It} {g : Gr} (h : RM B R w left lst nds drs pos list g) (hbd : Bd list g) (s : ByteArray) :
    Calls Tryd.prog 33 #[.pointer (some ⟨R, 0, none⟩), .string s] w (TakePost B R w left pos list (takeF g .bracket s)) := by
  obtain ⟨i45, hi, hz0, hz1, hz2⟩ := info_parts Tryd.info37
  obtain ⟨T, hT⟩ : ∃ T, takeF g .bracket s = T := ⟨_, rfl⟩
  rw [hT]
  rw [take_bracket] at hT
  by_cases hs : s = wOpen
  · rw [if_pos hs] at hT
    have hsb : (s.toList == [40]) = true := by rw [hs, open_list]; rfl
    obtain ⟨aD, capD, rfl, hcD⟩ := own_slice h.dr
    have c6 : w.cell? ⟨R, 6, none⟩ = some (.slice aD g.dirs.length capD) := by simp [World.cell?, h.blk]
    by_cases h5 : 5 < g.dirs.length
    · rw [if_pos h5] at hT
      subst hT
      have h5z : (5 : Int) < g.dirs.length := by omega
      clear hs
      go_enter Tryd.func33, Tryd.ntmps33
      go_wp2
      go_ret
      exact ⟨rfl, Below.refl _ _⟩
    · rw [if_neg h5] at hT
      have h5z : ¬ (5 : Int) < g.dirs.length := by omega
      obtain ⟨aN, capN, hnd, hcN⟩ := own_slice h.nd
      have c5 : w.cell? ⟨R, 5, none⟩ = some (.slice aN g.nodes.length capN) := by simp [World.cell?, h.blk, hnd]
      by_cases h30 : 30 ≤ g.nodes.length
      · rw [if_pos h30] at hT
        subst hT
        have h30z : (30 : Int) ≤ g.nodes.length := by omega
        clear hs
        go_enter Tryd.func33, Tryd.ntmps33
        go_wp2
        go_ret
        exact ⟨rfl, Below.refl _ _⟩
      · rw [if_neg h30] at hT
        subst hT
        have h30z : ¬ (30 : Int) ≤ g.nodes.length := by omega
        have c7 : w.cell? ⟨R, 7, none⟩ = some (.string g.path) := by simp [World.cell?, h.blk]
        have f5 : w.frozen? ⟨R, 5, none⟩ = false := by simp [World.frozen?, h.blk]
        have hlt := h.lt
        have hBR := h.BR
        have hBw : B ≤ w.heap.size := by omega
        have H := hide h
        have hrow : some R ≠ nds.ownBlock := fun e => by
          obtain ⟨c, fz, hc⟩ := own_kind h.nd R e.symm
          rw [h.blk] at hc; cases hc
        subst hnd
        clear hs h
        have hmf : ∀ (fn : Fn) (first cap : Array Value) (w : World), (Instr.makeFunc fn first cap).run Tryd.prog w = .ok (.func fn first cap) w := fun _ _ _ _ => rfl
        go_enter Tryd.func33, Tryd.ntmps33
        go_wp2
        go_region_law (refine step_append_own rfl (.tmp 29) (.tmp 36) 23 rfl B 37 i45 (.agg #[.string ⟨#[]⟩, .int .i64 0, .string ⟨#[]⟩]) 3 40 Tryd.underlying23 hi hz0 hz1 hz2 rfl (by decide) (.slice aN g.nodes.length capN) g.nodes.length (flat3 g.nodes) (by simp [Act.eval]) (H.out.nd.drew.alloc _) ⟨w.heap.size, 0, none⟩ 1 1 [.string g.path, .int .i64 0, .string ⟨#[]⟩] (by simp [Act.eval]) rfl (cell_three_at _ _ _ _ _ _ rfl) (fun x hx => by simp at hx; rcases hx with rfl | rfl | rfl <;> rfl) (by unfold maxLen; omega) (by omega) (by simp; try omega) ?_; intro v2 w3 hown3 hgrow3 hat3; obtain ⟨g3, cap3, rfl, hcap3⟩ := own_form hown3 (by omega); have hR3 := (hgrow3.block R (by simp; try omega) hrow).trans (block_keep (w := w.drew) _ H.out.blk); have c53 : w3.cell? ⟨R, 5, none⟩ = some (.slice aN g.nodes.length capN) := (by simp [World.cell?, hR3]); have f53 : w3.frozen? ⟨R, 5, none⟩ = false := (by simp [World.frozen?, hR3]))
        all_goals
          obtain ⟨hRM7, hB7, hK7⟩ := H.out.setNodes (((KT.new [37] (drewB w)).alloc _).grown (H.out.nd.drew.alloc _) hgrow3 (by decide)) (((Below.refl B w).drew.alloc (by show B ≤ w.heap.size; omega) _).grown hgrow3 (by simp; try omega) (fun k hk => (H.out.nd.lt k hk).1)) (g.nodes ++ [⟨g.path, 0, ⟨#[]⟩⟩]) _ (by rw [flat3_append, List.length_append]; exact hown3)
          generalize w3.setCell ⟨R, 5, none⟩ (.slice (some ⟨g3, 0, none⟩) (g.nodes.length + 1) cap3) = W7 at hRM7 hB7 hK7 ⊢
          clear hown3 hgrow3 hat3 hR3 c53 f53 c5 c6 c7 f5
          have hRM7d := hide (hRM7.new (drewB W7))
          have hsz7 := hB7.size
          clear hRM7
          go_wp2
          go_region_with (first
            | (go_at_call 31; refine (Word_any _ _).mono ?_; rintro e w4 ⟨bx, rfl, hbx, hb4⟩; have hRM8 := hide (hRM7d.out.new hb4))
            | (go_at_call 32; refine (Words_any _ _ _ _).mono ?_; rintro e w5 ⟨rfl, hb5⟩; have hRM9 := hide (hRM8.out.new hb5); have hbx5 := (hb5.block _ (lt_of_block hbx)).trans hbx)
            | (go_at_call 30; refine (Must_rm (hRM9.out.new ((Below.refl _ _).alloc (Nat.le_refl _) _)) w5.heap.size [.word wType, .kind] [⟨8, .func 45, #[], #[.pointer (some ⟨bx, 0, none⟩)]⟩, ⟨8, .func 46, #[.pointer (some ⟨R, 0, none⟩)], #[]⟩] ⟨⟨bx, rfl, block_keep _ hbx5⟩, rfl, trivial⟩ (block_new w5 _) (hRM9.out.lstNew) (by have := hbd.ll; omega) (by simp)).mono ?_; rintro e w6 ⟨⟨r, rfl⟩, lst6, hRM10, hb6, hk6⟩))
          all_goals
            go_wp2
            go_ret
            refine ⟨rfl, lst6, _, _, hRM10, ?_, ?_⟩
            · exact ((below_ext (below_ext (below_ext hB7 hBw (drewB W7)) hBw hb4) hBw hb5).alloc (by have := hb5.size; have := hb4.size; have := (drewB W7).size; omega) _).trans hb6
            · exact ((((hK7.trans (KT.new TS (drewB W7))).trans (KT.new TS hb4)).trans (KT.new TS hb5)).alloc _).trans hk6
  · rw [if_neg hs] at hT
    subst hT
    have hsb : (s.toList == [40]) = false := by rw [← open_list]; exact eqB_false hs
    clear hs
    go_enter Tryd.func33, Tryd.ntmps33
    go_wp2
    go_ret
    exact ⟨rfl, Below.refl _ _⟩
end Go.Proofs.YtpbjdfobbnpjfaaDoor
