/-
  WALKS of the reader, 11: a node's kind is taken.
-/
import Derived.Test.YtpbjdfobbnpjfaaDoorC9
import Derived.Test.YtpbjdfobbnpjfaaDoorC10
namespace Go.Proofs.YtpbjdfobbnpjfaaDoor
open Go.RowKit

set_option maxRecDepth 20000 in
set_option maxHeartbeats 1000000 in
theorem enter_big (base : Nat) (v : Value) (ds : List (ByteArray × ByteArray)) (path : ByteArray) (kind : Int) (data : ByteArray) (w : World) (hown : w.ownsRow base 87 2 v ds.length (flat2 ds)) (hbase : base ≤ w.heap.size) (hlen : ds.length ≤ 100000000) (hs : path.size ≤ 1000000000) :
    Calls Tryd.prog 40 #[v, .agg #[.string path, .int .i64 kind, .string data]] w fun e w' => ∃ v', e = .returned v' ∧ w'.ownsRow base 87 2 v' (enterL ds path kind).length (flat2 (enterL ds path kind)) ∧ KE 87 base w w' := by
  obtain ⟨i0, hi, hz0, hz1, hz2⟩ := info_parts Tryd.info87
  by_cases h4 : kind = 4
  · subst h4
    have hE : enterL ds path 4 = ds ++ [(prefixIn path, ⟨#[]⟩)] := by simp [enterL]
    rw [hE]
    clear hE
    have hp := hide (prefixIn_any path (w.alloc (.cells #[.string path, .int .i64 4, .string data] 37)) hs)
    generalize prefixIn path = q at hp
    go_enter Tryd.func40, Tryd.ntmps40
    go_wp2_with fail
    refine hp.out.mono ?_
    rintro e w1 ⟨rfl, rfl⟩
    clear hp
    go_wp2_with (at_builtin; refine wpList_append_own _ rfl (.tmp 8) (.tmp 13) 57 rfl base 87 i0 (.agg #[.string ⟨#[]⟩, .string ⟨#[]⟩]) 2 32 Tryd.underlying57 hi hz0 hz1 hz2 rfl (by decide) _ _ _ rfl ((hown.alloc _).alloc _) ⟨w.heap.size + 1, 0, none⟩ 1 1 [.string q, .string ⟨#[]⟩] rfl rfl (cell_two_at _ _ _ _ _ (by simp)) (fun x hx => by simp at hx; rcases hx with rfl | rfl <;> rfl) (by unfold maxLen; omega) (by omega) (by simp; omega) ?_; intro v' w3 hown3 hgrow3 hnil3)
    go_ret
    refine ⟨_, rfl, ?_, ?_⟩
    · rw [flat2_append, List.length_append]
      exact hown3
    · exact (((KE.refl 87 base w).alloc hbase _).alloc (by simp; omega) _).grown ((hown.alloc _).alloc _) hgrow3 (by simp; omega)
  · have hE : enterL ds path kind = ds := by simp [enterL, h4]
    have h4b : (kind == 4) = false := beq_eq_false_iff_ne.2 h4
    rw [hE]
    clear hE h4
    go_enter Tryd.func40, Tryd.ntmps40
    go_wp2
    go_ret
    exact ⟨_, rfl, hown.alloc _, (KE.refl 87 base w).alloc hbase _⟩

theorem RM.setDirs {B R : Nat} {w w3 : World} {left lst nds drs : Value} {pos : Nat} {list : List It} {g : Gr} (h : RM B R w left lst nds drs pos list g) (hk : KT [87] w w3) (hb : Below B w w3) (dirs' : Ds) (drs' : Value) (hown : w3.ownsRow B 87 2 drs' dirs'.length (flat2 dirs')) :
    RM B R (w3.setCell ⟨R, 6, none⟩ drs') left lst nds drs' pos list ⟨g.nodes, dirs', g.path⟩ ∧ Below B w (w3.setCell ⟨R, 6, none⟩ drs') ∧ KT TS w (w3.setCell ⟨R, 6, none⟩ drs') := by
  have hR3 := hk _ _ _ _ h.blk (by decide)
  obtain ⟨ivs, h1, h2⟩ := h.its
  have hne : ∀ {e : TypeId} {s n : Nat} {v : Value} {xs : List Value}, w3.ownsRow B e s v n xs → e ≠ 61 → v.ownBlock ≠ some R := fun ho he e => by
    obtain ⟨c, fz, hc⟩ := own_kind ho R e
    rw [hR3] at hc
    injection hc with hc
    injection hc with _ hc _
    exact he hc.symm
  have o1 := own_kt h2 hk (by decide)
  have o2 := own_kt h.nd hk (by decide)
  have hkR : KT TS w (w3.setCell ⟨R, 6, none⟩ drs') := KT.set (hk.mono (by decide)) hR3 (by decide) 6 drs'
  refine ⟨⟨block_set hR3 6 drs', h.BR, ⟨ivs, ?_, ownsRow_setCell_other o1 (hne o1 (by decide)) _⟩, ownsRow_setCell_other o2 (hne o2 (by decide)) _, ownsRow_setCell_other hown (hne hown (by decide)) _⟩, hb.setCell h.BR _, hkR⟩
  exact h1.kept hkR (by decide)
theorem kt_ke {e : TypeId} {base : Nat} {w w' : World} (h : KE e base w w') : KT [e] w w' := fun i c t f hi ht => h.block (fun e' => ht (by simp [e'])) hi
theorem file_list : wFile.toList = [102, 105, 108, 101] := by rw [ByteArray.toList_eq]; rfl
theorem link_list : wLink.toList = [108, 105, 110, 107] := by rw [ByteArray.toList_eq]; rfl
theorem dir_list : wDir.toList = [100, 105, 114] := by rw [ByteArray.toList_eq]; rfl

set_option maxRecDepth 20000 in
set_option maxHeartbeats 4000000 in
theorem takeKind_any {B R : Nat} {w : World} {left lst nds drs : Value} {pos : Nat} {list : List It} {g : Gr} (h : RM B R w left lst nds drs pos list g) (hbd : Bd list g) (hne : g.nodes ≠ []) (s : ByteArray) :
    Calls Tryd.prog 46 #[.pointer (some ⟨R, 0, none⟩), .string s] w (TakePost B R w left pos list (takeF g .kind s)) := by
  obtain ⟨k, hk⟩ : ∃ k, g.nodes.length = k + 1 := ⟨g.nodes.length - 1, by have := List.length_pos_iff.2 hne; omega⟩
  have hk30 := hbd.ln
  have hmf : ∀ (fn : Fn) (first cap : Array Value) (w : World), (Instr.makeFunc fn first cap).run Tryd.prog w = .ok (.func fn first cap) w := fun _ _ _ _ => rfl
  obtain ⟨gN, capN, rfl, hcN⟩ := own_form h.nd (by omega)
  rw [hk] at hcN
  have hk' : k < g.nodes.length := by omega
  have hBw : B ≤ w.heap.size := by have := h.lt; have := h.BR; omega
  have c5 : w.cell? ⟨R, 5, none⟩ = some (.slice (some ⟨gN, 0, none⟩) (k + 1) capN) := by simp [World.cell?, h.blk, hk]
  have cN := hide (newest_any R gN (k + 1) capN w (by omega) hcN c5 (by omega))
  simp only [Nat.add_sub_cancel] at cN
  obtain ⟨f0, f1, f2⟩ := flat3_get g.nodes k hk'
  have hrow := h.nd
  have d1 : ∀ q, (w.drewN q).cell? ⟨gN, k * 3 + 1, none⟩ = some (.int .i64 g.nodes[k].kind) := fun q => (own_drewN hrow q).cellAt (k * 3 + 1) (by omega) |>.trans f1
  have z1 : ∀ q, (w.drewN q).frozen? ⟨gN, k * 3 + 1, none⟩ = false := fun q => (own_drewN hrow q).frozenAt (k * 3 + 1)
  have H := hide h
  clear h hne hrow f0 f1 f2
  obtain ⟨T, hT⟩ : ∃ T, takeF g .kind s = T := ⟨_, rfl⟩
  rw [hT]
  rw [take_kind] at hT
  by_cases h1 : s = wFile
  · rw [if_pos h1] at hT
    subst hT
    have hb1 : (s.toList == [102, 105, 108, 101]) = true := by rw [h1, file_list]; rfl
    clear h1
    go_enter Tryd.func46, Tryd.ntmps46
    go_wp2_with fail
    refine cN.out.mono ?_
    rintro e w1 ⟨rfl, q, rfl⟩
    have e1 := d1 q
    have y1 := z1 q
    have hRM1 := H.out.new (drewNB w q)
    have hB1 : Below B w (w.drewN q) := (drewNB w q).mono hBw
    have hK1 : KT TS w (w.drewN q) := KT.new TS (drewNB w q)
    generalize w.drewN q = w1 at e1 y1 hRM1 hB1 hK1
    clear cN d1 z1 c5
    obtain ⟨a1, a2, a3⟩ := hRM1.kindSet k hk 1
    have hB0 := hB1.trans a2
    have hK0 := hK1.trans a3
    have hM0 := hide (a1.new (drewB _))
    have hMp := hide a1
    clear hRM1 a1 a2 a3 hB1 hK1
    generalize hW : w1.setCell ⟨gN, k * 3 + 1, none⟩ (.int .i64 1) = W7 at hB0 hK0 hM0 hMp
    go_wp2
    clear hW e1 y1
    go_region_with (first
      | (go_at_call 32; refine (Words_any (.func 54) _ _ _).mono ?_; rintro e u1 ⟨rfl, hu1⟩; have hM1 := hide (hM0.out.new hu1); have hI1 : IsIt u1 R (.inFile) ⟨8, .func 54, #[.pointer (some ⟨R, 0, none⟩)], #[]⟩ := rfl)
      | (go_at_call 30; refine (Must_rm (hM1.out.new ((Below.refl _ _).alloc (Nat.le_refl _) _)) u1.heap.size [.inFile] [⟨8, .func 54, #[.pointer (some ⟨R, 0, none⟩)], #[]⟩] ⟨hI1.kept (KT.new [] ((Below.refl _ _).alloc (Nat.le_refl _) _)) (by simp), trivial⟩ (block_new u1 _) hM1.out.lstNew (by have := hbd.ll; omega) (by simp)).mono ?_; rintro e uz ⟨⟨r, rfl⟩, lstz, hRMz, hbz, hkz⟩))
    all_goals
      go_wp2
      go_ret
      refine ⟨rfl, lstz, _, _, hRMz, ?_, ?_⟩
      · exact ((below_ext (below_ext hB0 hBw (drewB W7)) hBw hu1).alloc (by have := hu1.size; have := (drewB W7).size; have := hB0.size; omega) _).trans hbz
      · exact (((hK0.trans (KT.new TS (drewB W7))).trans (KT.new TS hu1)).alloc _).trans hkz
  · rw [if_neg h1] at hT
    have hb1 : (s.toList == [102, 105, 108, 101]) = false := by rw [← file_list]; exact eqB_false h1
    by_cases h2 : s = wLink
    · rw [if_pos h2] at hT
      subst hT
      have hb2 : (s.toList == [108, 105, 110, 107]) = true := by rw [h2, link_list]; rfl
      clear h1 h2
      go_enter Tryd.func46, Tryd.ntmps46
      go_wp2_with fail
      refine cN.out.mono ?_
      rintro e w1 ⟨rfl, q, rfl⟩
      have e1 := d1 q
      have y1 := z1 q
      have hRM1 := H.out.new (drewNB w q)
      have hB1 : Below B w (w.drewN q) := (drewNB w q).mono hBw
      have hK1 : KT TS w (w.drewN q) := KT.new TS (drewNB w q)
      generalize w.drewN q = w1 at e1 y1 hRM1 hB1 hK1
      clear cN d1 z1 c5
      obtain ⟨a1, a2, a3⟩ := hRM1.kindSet k hk 3
      have hB0 := hB1.trans a2
      have hK0 := hK1.trans a3
      have hM0 := hide (a1.new (drewB _))
      have hMp := hide a1
      clear hRM1 a1 a2 a3 hB1 hK1
      generalize hW : w1.setCell ⟨gN, k * 3 + 1, none⟩ (.int .i64 3) = W7 at hB0 hK0 hM0 hMp
      go_wp2
      clear hW e1 y1
      go_region_with (first
        | (go_at_call 31; refine (Word_any wTo _).mono ?_; rintro e u1 ⟨bx1, rfl, hx1, hu1⟩; have hM1 := hide (hM0.out.new hu1); have hI1 : IsIt u1 R (.word wTo) ⟨8, .func 45, #[], #[.pointer (some ⟨bx1, 0, none⟩)]⟩ := ⟨bx1, rfl, hx1⟩)
        | (go_at_call 55; refine (data_any R _).mono ?_; rintro e u2 ⟨rfl, hu2⟩; have hM2 := hide (hM1.out.new hu2); have hI1 := hI1.kept (KT.new [] hu2) (by simp); have hI2 : IsIt u2 R (.data) ⟨100, .func 62, #[.pointer (some ⟨R, 0, none⟩)], #[]⟩ := rfl)
        | (go_at_call 31; refine (Word_any wClose _).mono ?_; rintro e u3 ⟨bx3, rfl, hx3, hu3⟩; have hM3 := hide (hM2.out.new hu3); have hI1 := hI1.kept (KT.new [] hu3) (by simp); have hI2 := hI2.kept (KT.new [] hu3) (by simp); have hI3 : IsIt u3 R (.word wClose) ⟨8, .func 45, #[], #[.pointer (some ⟨bx3, 0, none⟩)]⟩ := ⟨bx3, rfl, hx3⟩)
        | (go_at_call 30; refine (Must_rm (hM3.out.new ((Below.refl _ _).alloc (Nat.le_refl _) _)) u3.heap.size [.word wTo, .data, .word wClose] [⟨8, .func 45, #[], #[.pointer (some ⟨bx1, 0, none⟩)]⟩, ⟨100, .func 62, #[.pointer (some ⟨R, 0, none⟩)], #[]⟩, ⟨8, .func 45, #[], #[.pointer (some ⟨bx3, 0, none⟩)]⟩] ⟨hI1.kept (KT.new [] ((Below.refl _ _).alloc (Nat.le_refl _) _)) (by simp), hI2.kept (KT.new [] ((Below.refl _ _).alloc (Nat.le_refl _) _)) (by simp), hI3.kept (KT.new [] ((Below.refl _ _).alloc (Nat.le_refl _) _)) (by simp), trivial⟩ (block_new u3 _) hM3.out.lstNew (by have := hbd.ll; omega) (by simp)).mono ?_; rintro e uz ⟨⟨r, rfl⟩, lstz, hRMz, hbz, hkz⟩))
      all_goals
        go_wp2
        go_ret
        refine ⟨rfl, lstz, _, _, hRMz, ?_, ?_⟩
        · exact ((below_ext (below_ext (below_ext (below_ext hB0 hBw (drewB W7)) hBw hu1) hBw hu2) hBw hu3).alloc (by have := hu1.size; have := hu2.size; have := hu3.size; have := (drewB W7).size; have := hB0.size; omega) _).trans hbz
        · exact (((((hK0.trans (KT.new TS (drewB W7))).trans (KT.new TS hu1)).trans (KT.new TS hu2)).trans (KT.new TS hu3)).alloc _).trans hkz
    · rw [if_neg h2] at hT
      have hb2 : (s.toList == [108, 105, 110, 107]) = false := by rw [← link_list]; exact eqB_false h2
      by_cases h3 : s = wDir
      · rw [if_pos h3] at hT
        subst hT
        have hb3 : (s.toList == [100, 105, 114]) = true := by rw [h3, dir_list]; rfl
        clear h1 h2 h3
        go_enter Tryd.func46, Tryd.ntmps46
        go_wp2_with fail
        refine cN.out.mono ?_
        rintro e w1 ⟨rfl, q, rfl⟩
        have e1 := d1 q
        have y1 := z1 q
        have hRM1 := H.out.new (drewNB w q)
        have hB1 : Below B w (w.drewN q) := (drewNB w q).mono hBw
        have hK1 : KT TS w (w.drewN q) := KT.new TS (drewNB w q)
        generalize w.drewN q = w1 at e1 y1 hRM1 hB1 hK1
        clear cN d1 z1 c5
        obtain ⟨a1, a2, a3⟩ := hRM1.kindSet k hk 4
        have hB0 := hB1.trans a2
        have hK0 := hK1.trans a3
        have hM0 := hide (a1.new (drewB _))
        have hMp := hide a1
        clear hRM1 a1 a2 a3 hB1 hK1
        generalize hW : w1.setCell ⟨gN, k * 3 + 1, none⟩ (.int .i64 4) = W7 at hB0 hK0 hM0 hMp
        go_wp2
        clear hW e1 y1
        obtain ⟨p, hp⟩ : ∃ p, (lastN g.nodes).path = p := ⟨_, rfl⟩
        obtain ⟨d, hd⟩ : ∃ d, (lastN g.nodes).data = d := ⟨_, rfl⟩
        rw [hp, hd] at hMp
        rw [hp, hd]
        have hps : p.size ≤ 100000000 := by
          rw [← hp, lastN_get _ k hk]
          exact hbd.np _ (List.getElem_mem _)
        have hlN : (setN g.nodes ⟨p, 4, d⟩).length = k + 1 := by rw [setN_set _ k hk, List.length_set, hk]
        obtain ⟨e0, e1, e2⟩ := flat3_get (setN g.nodes ⟨p, 4, d⟩) k (by omega)
        have hget : (setN g.nodes ⟨p, 4, d⟩)[k]'(by omega) = ⟨p, 4, d⟩ := by simp [setN_set _ k hk]
        rw [hget] at e0 e1 e2
        have hnd : W7.ownsRow B 37 3 (.slice (some ⟨gN, 0, none⟩) g.nodes.length capN) g.nodes.length (flat3 (setN g.nodes ⟨p, 4, d⟩)) := by
          have := hMp.out.nd
          simp only [hlN] at this
          rw [← hk] at this
          exact this
        have n0 : W7.cell? ⟨gN, k * 3, none⟩ = some (.string p) := (hnd.cellAt (k * 3) (by omega)).trans e0
        have n1 : W7.cell? ⟨gN, k * 3 + 1, none⟩ = some (.int .i64 4) := (hnd.cellAt (k * 3 + 1) (by omega)).trans e1
        have n2 : W7.cell? ⟨gN, k * 3 + 2, none⟩ = some (.string d) := (hnd.cellAt (k * 3 + 2) (by omega)).trans e2
        have c6 : W7.cell? ⟨R, 6, none⟩ = some drs := by simp [World.cell?, hMp.out.blk]
        have hMd := hide (hMp.out.new (drewB W7))
        have hR7 := hMp.out.lt
        clear e0 e1 e2 hget hM0 hMp hnd
        go_region_with (go_at_call 40; refine (enter_big B drs g.dirs p 4 d _ hMd.out.dr (by have := hMd.out.lt; have := hMd.out.BR; omega) hbd.ld (by omega)).mono ?_; rintro e w4 ⟨v4, rfl, hown4, hk4⟩; obtain ⟨a4, cap4, rfl, hc4⟩ := own_slice hown4; have hR4 := hk4.block (by decide) hMd.out.blk; have c64 : w4.cell? ⟨R, 6, none⟩ = some drs := (by simp [World.cell?, hR4]); have f64 : w4.frozen? ⟨R, 6, none⟩ = false := (by simp [World.frozen?, hR4]))
        all_goals
          obtain ⟨a1, a2, a3⟩ := hMd.out.setDirs (kt_ke hk4) hk4.bel (enterL g.dirs p 4) _ hown4
          have hE : enterL g.dirs p 4 = g.dirs ++ [(prefixIn p, ⟨#[]⟩)] := by simp [enterL]
          rw [hE] at a1 a2 a3 ⊢
          have hB9 := (below_ext hB0 hBw (drewB W7)).trans a2
          have hK9 := (hK0.trans (KT.new TS (drewB W7))).trans a3
          generalize w4.setCell ⟨R, 6, none⟩ (.slice a4 (g.dirs ++ [(prefixIn p, (⟨#[]⟩ : ByteArray))]).length cap4) = W8 at a1 hB9 hK9 ⊢
          have hM0 := hide (a1.new (drewB W8))
          clear a1 a2 a3 c64 f64 hR4 hown4 hk4 c6 n0 n1 n2
          go_wp2
          go_region_with (first
            | (go_at_call 32; refine (Words_any (.func 56) _ _ _).mono ?_; rintro e u1 ⟨rfl, hu1⟩; have hM1 := hide (hM0.out.new hu1); have hI1 : IsIt u1 R (.inDir) ⟨8, .func 56, #[.pointer (some ⟨R, 0, none⟩)], #[]⟩ := rfl)
            | (go_at_call 30; refine (Must_rm (hM1.out.new ((Below.refl _ _).alloc (Nat.le_refl _) _)) u1.heap.size [.inDir] [⟨8, .func 56, #[.pointer (some ⟨R, 0, none⟩)], #[]⟩] ⟨hI1.kept (KT.new [] ((Below.refl _ _).alloc (Nat.le_refl _) _)) (by simp), trivial⟩ (block_new u1 _) hM1.out.lstNew (by have := hbd.ll; omega) (by simp)).mono ?_; rintro e uz ⟨⟨r, rfl⟩, lstz, hRMz, hbz, hkz⟩))
          all_goals
            go_wp2
            go_ret
            subst hp
            subst hd
            refine ⟨rfl, lstz, _, _, hRMz, ?_, ?_⟩
            · exact ((below_ext (below_ext hB9 hBw (drewB W8)) hBw hu1).alloc (by have := hu1.size; have := (drewB W8).size; have := hB9.size; omega) _).trans hbz
            · exact (((hK9.trans (KT.new TS (drewB W8))).trans (KT.new TS hu1)).alloc _).trans hkz
      · rw [if_neg h3] at hT
        subst hT
        have hb3 : (s.toList == [100, 105, 114]) = false := by rw [← dir_list]; exact eqB_false h3
        clear h1 h2 h3
        go_enter Tryd.func46, Tryd.ntmps46
        go_wp2_with fail
        refine cN.out.mono ?_
        rintro e w1 ⟨rfl, q, rfl⟩
        go_wp2
        go_ret
        exact ⟨rfl, drewNB w q⟩
end Go.Proofs.YtpbjdfobbnpjfaaDoor
