import Derived.Test.YticfcjmlphhpgabGreatDoorB09
import Derived.Test.YticfcjmlphhpgabGreatDoorB11
namespace Go.Proofs.YticfcjmlphhpgabGreatDoor
open Go.RowKit

set_option maxRecDepth 20000 in
set_option maxHeartbeats 1000000 in
theorem enter_big (base : Nat) (v : Value) (ds : List (ByteArray × ByteArray)) (path : ByteArray) (kind : Int) (data : ByteArray) (w : World) (hown : w.ownsRow base 164 2 v ds.length (flat2 ds)) (hbase : base ≤ w.heap.size) (hlen : ds.length ≤ 100000000) (hs : path.size ≤ 1000000000) :
    Calls Tryz.prog 97 #[v, .agg #[.string path, .int .i64 kind, .string data]] w fun e w' => ∃ v', e = .returned v' ∧ w'.ownsRow base 164 2 v' (enterL ds path kind).length (flat2 (enterL ds path kind)) ∧ KE 164 base w w' := by
  obtain ⟨i0, hi, hz0, hz1, hz2⟩ := info_parts Tryz.info164
  by_cases h4 : kind = 4
  · subst h4
    have hE : enterL ds path 4 = ds ++ [(prefixIn path, ⟨#[]⟩)] := by simp [enterL]
    rw [hE]
    clear hE
    have hp := hide (prefixIn_any path (w.alloc (.cells #[.string path, .int .i64 4, .string data] 43)) hs)
    generalize prefixIn path = q at hp
    go_enter Tryz.func97, Tryz.ntmps97
    go_wp2_with fail
    refine hp.out.mono ?_
    rintro e w1 ⟨rfl, rfl⟩
    clear hp
    go_wp2_with (at_builtin; refine wpList_append_own _ rfl (.tmp 8) (.tmp 13) 82 rfl base 164 i0 (.agg #[.string ⟨#[]⟩, .string ⟨#[]⟩]) 2 32 Tryz.underlying82 hi hz0 hz1 hz2 rfl (by decide) _ _ _ rfl ((hown.alloc _).alloc _) ⟨w.heap.size + 1, 0, none⟩ 1 1 [.string q, .string ⟨#[]⟩] rfl rfl (cell_two_at _ _ _ _ _ (by simp)) (fun x hx => by simp at hx; rcases hx with rfl | rfl <;> rfl) (by unfold maxLen; omega) (by omega) (by simp; omega) ?_; intro v' w3 hown3 hgrow3 hnil3)
    go_ret
    refine ⟨_, rfl, ?_, ?_⟩
    · rw [flat2_append, List.length_append]
      exact hown3
    · exact (((KE.refl 164 base w).alloc hbase _).alloc (by simp; omega) _).grown ((hown.alloc _).alloc _) hgrow3 (by simp; omega)
  · have hE : enterL ds path kind = ds := by simp [enterL, h4]
    have h4b : (kind == 4) = false := beq_eq_false_iff_ne.2 h4
    rw [hE]
    clear hE h4
    go_enter Tryz.func97, Tryz.ntmps97
    go_wp2
    go_ret
    exact ⟨_, rfl, hown.alloc _, (KE.refl 164 base w).alloc hbase _⟩

theorem RM.setDirs {X : Xt} {B R : Nat} {w w3 : World} {left lst nds drs : Value} {pos : Nat} {list : List It} {g : Gr} (h : RM X B R w left lst nds drs pos list g) (hk : KT [164] w w3) (hb : Below B w w3) (dirs' : Ds) (drs' : Value) (hown : w3.ownsRow B 164 2 drs' dirs'.length (flat2 dirs')) :
    RM X B R (w3.setCell ⟨R, 6, none⟩ drs') left lst nds drs' pos list ⟨g.nodes, dirs', g.path⟩ ∧ Below B w (w3.setCell ⟨R, 6, none⟩ drs') ∧ KT TS w (w3.setCell ⟨R, 6, none⟩ drs') := by
  have hR3 := hk _ _ _ _ h.blk (tyN X.ok (by decide))
  obtain ⟨ivs, h1, h2⟩ := h.its
  have hne : ∀ {e : TypeId} {s n : Nat} {v : Value} {xs : List Value}, w3.ownsRow B e s v n xs → e ≠ X.ty → v.ownBlock ≠ some R := fun ho he e => by
    obtain ⟨c, fz, hc⟩ := own_kind ho R e
    rw [hR3] at hc
    injection hc with hc
    injection hc with _ hc _
    exact he hc.symm
  have o1 := own_kt h2 hk (by decide)
  have o2 := own_kt h.nd hk (by decide)
  have hkR : KT TS w (w3.setCell ⟨R, 6, none⟩ drs') := KT.set (hk.mono (by decide)) hR3 (tyI X.ok (by decide)) 6 drs'
  refine ⟨⟨block_set hR3 6 drs', h.BR, ⟨ivs, ?_, ownsRow_setCell_other o1 (hne o1 (tyD X.ok (by decide))) _⟩, ownsRow_setCell_other o2 (hne o2 (tyD X.ok (by decide))) _, ownsRow_setCell_other hown (hne hown (tyD X.ok (by decide))) _⟩, hb.setCell h.BR _, hkR⟩
  exact h1.kept hkR (by decide)
theorem kt_ke {e : TypeId} {base : Nat} {w w' : World} (h : KE e base w w') : KT [e] w w' := fun i c t f hi ht => h.block (fun e' => ht (by simp [e'])) hi
theorem file_list : wFile.toList = [102, 105, 108, 101] := by rw [ByteArray.toList_eq]; rfl
theorem link_list : wLink.toList = [108, 105, 110, 107] := by rw [ByteArray.toList_eq]; rfl
theorem dir_list : wDir.toList = [100, 105, 114] := by rw [ByteArray.toList_eq]; rfl

set_option maxRecDepth 20000 in
set_option maxHeartbeats 4000000 in
theorem takeKind_any {X : Xt} {B R : Nat} {w : World} {left lst nds drs : Value} {pos : Nat} {list : List It} {g : Gr} (h : RM X B R w left lst nds drs pos list g) (hbd : Bd list g) (hne : g.nodes ≠ []) (s : ByteArray) :
    Calls Tryz.prog 125 #[.pointer (some ⟨R, 0, none⟩), .string s] w (TakePost X B R w left pos list (takeF g .kind s)) := by
  obtain ⟨k, hk⟩ : ∃ k, g.nodes.length = k + 1 := ⟨g.nodes.length - 1, by have := List.length_pos_iff.2 hne; omega⟩
  have hk30 := hbd.ln
  have hmf : ∀ (fn : Fn) (first cap : Array Value) (w : World), (Instr.makeFunc fn first cap).run Tryz.prog w = .ok (.func fn first cap) w := fun _ _ _ _ => rfl
  obtain ⟨gN, capN, rfl, hcN⟩ := own_form h.nd (by omega)
  rw [hk] at hcN
  have hk' : k < g.nodes.length := by omega
  have hBw : B ≤ w.heap.size := by have := h.lt; have := h.BR; omega
  have c5 : w.cell? ⟨R, 5, none⟩ = some (.slice (some ⟨gN, 0, none⟩) (k + 1) capN) := by simp [World.cell?, h.blk, hk]
  have cN := hide (newest_any R gN (k + 1) capN w (by omega) hcN c5 (by omega))
  simp only [Nat.add_sub_cancel] at cN
  obtain ⟨f0, f1, f2⟩ := flat3_get g.nodes k hk'
  have hrow := h.nd
  have d1 : ∀ q, (w.drewN q).cell? ⟨gN, k * 3 + 1, none⟩ = some (.int .i64 g.nodes[k].kind) := fun q => (own_drewN hrow q).cellAt (k * 3 + 1) (by omega) |>.trans f1
  have z1 : ∀ q, (w.drewN q).frozen? ⟨gN, k * 3 + 1, none⟩ = false := fun q => (own_drewN hrow q).frozenAt (k * 3 + 1)
  have H := hide h
  clear h hne hrow f0 f1 f2
  obtain ⟨T, hT⟩ : ∃ T, takeF g .kind s = T := ⟨_, rfl⟩
  rw [hT]
  rw [take_kind] at hT
  by_cases h1 : s = wFile
  · rw [if_pos h1] at hT
    subst hT
    have hb1 : (s.toList == [102, 105, 108, 101]) = true := by rw [h1, file_list]; rfl
    clear h1
    go_enter Tryz.func125, Tryz.ntmps125
    go_wp2_with fail
    refine cN.out.mono ?_
    rintro e w1 ⟨rfl, q, rfl⟩
    have e1 := d1 q
    have y1 := z1 q
    have hRM1 := H.out.new (drewNB w q)
    have hB1 : Below B w (w.drewN q) := (drewNB w q).mono hBw
    have hK1 : KT TS w (w.drewN q) := KT.new TS (drewNB w q)
    generalize w.drewN q = w1 at e1 y1 hRM1 hB1 hK1
    clear cN d1 z1 c5
    obtain ⟨a1, a2, a3⟩ := hRM1.kindSet k hk 1
    have hB0 := hB1.trans a2
    have hK0 := hK1.trans a3
    have hM0 := hide (a1.new (drewB _))
    have hMp := hide a1
    clear hRM1 a1 a2 a3 hB1 hK1
    generalize hW : w1.setCell ⟨gN, k * 3 + 1, none⟩ (.int .i64 1) = W7 at hB0 hK0 hM0 hMp
    go_wp2
    clear hW e1 y1
    go_region_with (first
      | (go_at_call 40; refine (Words_any (.func 138) _ _ _).mono ?_; rintro e u1 ⟨rfl, hu1⟩; have hM1 := hide (hM0.out.new hu1); have hI1 : IsIt u1 R (.inFile) ⟨8, .func 138, #[.pointer (some ⟨R, 0, none⟩)], #[]⟩ := rfl)
      | (go_at_call 38; refine (Must_rm (hM1.out.new ((Below.refl _ _).alloc (Nat.le_refl _) _)) u1.heap.size [.inFile] [⟨8, .func 138, #[.pointer (some ⟨R, 0, none⟩)], #[]⟩] ⟨hI1.kept (KT.new [] ((Below.refl _ _).alloc (Nat.le_refl _) _)) (by simp), trivial⟩ (block_new u1 _) hM1.out.lstNew (by have := hbd.ll; have := X.tl; omega) (by simp)).mono ?_; rintro e uz ⟨⟨r, rfl⟩, lstz, hRMz, hbz, hkz⟩))
    all_goals
      go_wp2
      go_ret
      refine ⟨rfl, lstz, _, _, hRMz, ?_, ?_⟩
      · exact ((below_ext (below_ext hB0 hBw (drewB W7)) hBw hu1).alloc (by have := hu1.size; have := (drewB W7).size; have := hB0.size; omega) _).trans hbz
      · exact (((hK0.trans (KT.new TS (drewB W7))).trans (KT.new TS hu1)).alloc _).trans hkz
  · rw [if_neg h1] at hT
    have hb1 : (s.toList == [102, 105, 108, 101]) = false := by rw [← file_list]; exact eqB_false h1
    by_cases h2 : s = wLink
    · rw [if_pos h2] at hT
      subst hT
      have hb2 : (s.toList == [108, 105, 110, 107]) = true := by rw [h2, link_list]; rfl
      clear h1 h2
      go_enter Tryz.func125, Tryz.ntmps125
      go_wp2_with fail
      refine cN.out.mono ?_
      rintro e w1 ⟨rfl, q, rfl⟩
      have e1 := d1 q
      have y1 := z1 q
      have hRM1 := H.out.new (drewNB w q)
      have hB1 : Below B w (w.drewN q) := (drewNB w q).mono hBw
      have hK1 : KT TS w (w.drewN q) := KT.new TS (drewNB w q)
      generalize w.drewN q = w1 at e1 y1 hRM1 hB1 hK1
      clear cN d1 z1 c5
      obtain ⟨a1, a2, a3⟩ := hRM1.kindSet k hk 3
      have hB0 := hB1.trans a2
      have hK0 := hK1.trans a3
      have hM0 := hide (a1.new (drewB _))
      have hMp := hide a1
      clear hRM1 a1 a2 a3 hB1 hK1
      generalize hW : w1.setCell ⟨gN, k * 3 + 1, none⟩ (.int .i64 3) = W7 at hB0 hK0 hM0 hMp
      go_wp2
      clear hW e1 y1
      go_region_with (first
        | (go_at_call 39; refine (Word_any wTo _).mono ?_; rintro e u1 ⟨bx1, rfl, hx1, hu1⟩; have hM1 := hide (hM0.out.new hu1); have hI1 : IsIt u1 R (.word wTo) ⟨8, .func 66, #[], #[.pointer (some ⟨bx1, 0, none⟩)]⟩ := ⟨bx1, rfl, hx1⟩)
        | (go_at_call 139; refine (data_any R _).mono ?_; rintro e u2 ⟨rfl, hu2⟩; have hM2 := hide (hM1.out.new hu2); have hI1 := hI1.kept (KT.new [] hu2) (by simp); have hI2 : IsIt u2 R (.data) ⟨100, .func 142, #[.pointer (some ⟨R, 0, none⟩)], #[]⟩ := rfl)
        | (go_at_call 39; refine (Word_any wClose _).mono ?_; rintro e u3 ⟨bx3, rfl, hx3, hu3⟩; have hM3 := hide (hM2.out.new hu3); have hI1 := hI1.kept (KT.new [] hu3) (by simp); have hI2 := hI2.kept (KT.new [] hu3) (by simp); have hI3 : IsIt u3 R (.word wClose) ⟨8, .func 66, #[], #[.pointer (some ⟨bx3, 0, none⟩)]⟩ := ⟨bx3, rfl, hx3⟩)
        | (go_at_call 38; refine (Must_rm (hM3.out.new ((Below.refl _ _).alloc (Nat.le_refl _) _)) u3.heap.size [.word wTo, .data, .word wClose] [⟨8, .func 66, #[], #[.pointer (some ⟨bx1, 0, none⟩)]⟩, ⟨100, .func 142, #[.pointer (some ⟨R, 0, none⟩)], #[]⟩, ⟨8, .func 66, #[], #[.pointer (some ⟨bx3, 0, none⟩)]⟩] ⟨hI1.kept (KT.new [] ((Below.refl _ _).alloc (Nat.le_refl _) _)) (by simp), hI2.kept (KT.new [] ((Below.refl _ _).alloc (Nat.le_refl _) _)) (by simp), hI3.kept (KT.new [] ((Below.refl _ _).alloc (Nat.le_refl _) _)) (by simp), trivial⟩ (block_new u3 _) hM3.out.lstNew (by have := hbd.ll; have := X.tl; omega) (by simp)).mono ?_; rintro e uz ⟨⟨r, rfl⟩, lstz, hRMz, hbz, hkz⟩))
      all_goals
        go_wp2
        go_ret
        refine ⟨rfl, lstz, _, _, hRMz, ?_, ?_⟩
        · exact ((below_ext (below_ext (below_ext (below_ext hB0 hBw (drewB W7)) hBw hu1) hBw hu2) hBw hu3).alloc (by have := hu1.size; have := hu2.size; have := hu3.size; have := (drewB W7).size; have := hB0.size; omega) _).trans hbz
        · exact (((((hK0.trans (KT.new TS (drewB W7))).trans (KT.new TS hu1)).trans (KT.new TS hu2)).trans (KT.new TS hu3)).alloc _).trans hkz
    · rw [if_neg h2] at hT
      have hb2 : (s.toList == [108, 105, 110, 107]) = false := by rw [← link_list]; exact eqB_false h2
      by_cases h3 : s = wDir
      · rw [if_pos h3] at hT
        subst hT
        have hb3 : (s.toList == [100, 105, 114]) = true := by rw [h3, dir_list]; rfl
        clear h1 h2 h3
        go_enter Tryz.func125, Tryz.ntmps125
        go_wp2_with fail
        refine cN.out.mono ?_
        rintro e w1 ⟨rfl, q, rfl⟩
        have e1 := d1 q
        have y1 := z1 q
        have hRM1 := H.out.new (drewNB w q)
        have hB1 : Below B w (w.drewN q) := (drewNB w q).mono hBw
        have hK1 : KT TS w (w.drewN q) := KT.new TS (drewNB w q)
        generalize w.drewN q = w1 at e1 y1 hRM1 hB1 hK1
        clear cN d1 z1 c5
        obtain ⟨a1, a2, a3⟩ := hRM1.kindSet k hk 4
        have hB0 := hB1.trans a2
        have hK0 := hK1.trans a3
        have hM0 := hide (a1.new (drewB _))
        have hMp := hide a1
        clear hRM1 a1 a2 a3 hB1 hK1
        generalize hW : w1.setCell ⟨gN, k * 3 + 1, none⟩ (.int .i64 4) = W7 at hB0 hK0 hM0 hMp
        go_wp2
        clear hW e1 y1
        obtain ⟨p, hp⟩ : ∃ p, (lastN g.nodes).path = p := ⟨_, rfl⟩
        obtain ⟨d, hd⟩ : ∃ d, (lastN g.nodes).data = d := ⟨_, rfl⟩
        rw [hp, hd] at hMp
        rw [hp, hd]
        have hps : p.size ≤ 100000000 := by
          rw [← hp, lastN_get _ k hk]
          exact hbd.np _ (List.getElem_mem _)
        have hlN : (setN g.nodes ⟨p, 4, d⟩).length = k + 1 := by rw [setN_set _ k hk, List.length_set, hk]
        obtain ⟨e0, e1, e2⟩ := flat3_get (setN g.nodes ⟨p, 4, d⟩) k (by omega)
        have hget : (setN g.nodes ⟨p, 4, d⟩)[k]'(by omega) = ⟨p, 4, d⟩ := by simp [setN_set _ k hk]
        rw [hget] at e0 e1 e2
        have hnd : W7.ownsRow B 43 3 (.slice (some ⟨gN, 0, none⟩) g.nodes.length capN) g.nodes.length (flat3 (setN g.nodes ⟨p, 4, d⟩)) := by
          have := hMp.out.nd
          simp only [hlN] at this
          rw [← hk] at this
          exact this
        have n0 : W7.cell? ⟨gN, k * 3, none⟩ = some (.string p) := (hnd.cellAt (k * 3) (by omega)).trans e0
        have n1 : W7.cell? ⟨gN, k * 3 + 1, none⟩ = some (.int .i64 4) := (hnd.cellAt (k * 3 + 1) (by omega)).trans e1
        have n2 : W7.cell? ⟨gN, k * 3 + 2, none⟩ = some (.string d) := (hnd.cellAt (k * 3 + 2) (by omega)).trans e2
        have c6 : W7.cell? ⟨R, 6, none⟩ = some drs := by simp [World.cell?, hMp.out.blk]
        have hMd := hide (hMp.out.new (drewB W7))
        have hR7 := hMp.out.lt
        clear e0 e1 e2 hget hM0 hMp hnd
        go_region_with (go_at_call 97; refine (enter_big B drs g.dirs p 4 d _ hMd.out.dr (by have := hMd.out.lt; have := hMd.out.BR; omega) hbd.ld (by omega)).mono ?_; rintro e w4 ⟨v4, rfl, hown4, hk4⟩; obtain ⟨a4, cap4, rfl, hc4⟩ := own_slice hown4; have hR4 := hk4.block (tyD X.ok (by decide)).symm hMd.out.blk; have c64 : w4.cell? ⟨R, 6, none⟩ = some drs := (by simp [World.cell?, hR4]); have f64 : w4.frozen? ⟨R, 6, none⟩ = false := (by simp [World.frozen?, hR4]))
        all_goals
          obtain ⟨a1, a2, a3⟩ := hMd.out.setDirs (kt_ke hk4) hk4.bel (enterL g.dirs p 4) _ hown4
          have hE : enterL g.dirs p 4 = g.dirs ++ [(prefixIn p, ⟨#[]⟩)] := by simp [enterL]
          rw [hE] at a1 a2 a3 ⊢
          have hB9 := (below_ext hB0 hBw (drewB W7)).trans a2
          have hK9 := (hK0.trans (KT.new TS (drewB W7))).trans a3
          generalize w4.setCell ⟨R, 6, none⟩ (.slice a4 (g.dirs ++ [(prefixIn p, (⟨#[]⟩ : ByteArray))]).length cap4) = W8 at a1 hB9 hK9 ⊢
          have hM0 := hide (a1.new (drewB W8))
          clear a1 a2 a3 c64 f64 hR4 hown4 hk4 c6 n0 n1 n2
          go_wp2
          go_region_with (first
            | (go_at_call 40; refine (Words_any (.func 140) _ _ _).mono ?_; rintro e u1 ⟨rfl, hu1⟩; have hM1 := hide (hM0.out.new hu1); have hI1 : IsIt u1 R (.inDir) ⟨8, .func 140, #[.pointer (some ⟨R, 0, none⟩)], #[]⟩ := rfl)
            | (go_at_call 38; refine (Must_rm (hM1.out.new ((Below.refl _ _).alloc (Nat.le_refl _) _)) u1.heap.size [.inDir] [⟨8, .func 140, #[.pointer (some ⟨R, 0, none⟩)], #[]⟩] ⟨hI1.kept (KT.new [] ((Below.refl _ _).alloc (Nat.le_refl _) _)) (by simp), trivial⟩ (block_new u1 _) hM1.out.lstNew (by have := hbd.ll; have := X.tl; omega) (by simp)).mono ?_; rintro e uz ⟨⟨r, rfl⟩, lstz, hRMz, hbz, hkz⟩))
          all_goals
            go_wp2
            go_ret
            subst hp
            subst hd
            refine ⟨rfl, lstz, _, _, hRMz, ?_, ?_⟩
            · exact ((below_ext (below_ext hB9 hBw (drewB W8)) hBw hu1).alloc (by have := hu1.size; have := (drewB W8).size; have := hB9.size; omega) _).trans hbz
            · exact (((hK9.trans (KT.new TS (drewB W8))).trans (KT.new TS hu1)).alloc _).trans hkz
      · rw [if_neg h3] at hT
        subst hT
        have hb3 : (s.toList == [100, 105, 114]) = false := by rw [← dir_list]; exact eqB_false h3
        clear h1 h2 h3
        go_enter Tryz.func125, Tryz.ntmps125
        go_wp2_with fail
        refine cN.out.mono ?_
        rintro e w1 ⟨rfl, q, rfl⟩
        go_wp2
        go_ret
        exact ⟨rfl, drewNB w q⟩
end Go.Proofs.YticfcjmlphhpgabGreatDoor
namespace Go.Proofs.YticfcjmlphhpgabGreatDoor
open Go.RowKit

def StepPost (X : Xt) (B R : Nat) (w : World) (r : Out) (e : Ending) (w' : World) : Prop := match r with
  | .stop => e = .returned (.bool false) ∧ Below w.heap.size w w'
  | .fail er p => e = .returned (.bool false) ∧ RBad X.ty B R w' er p ∧ Below B w w' ∧ (er == 0) = false
  | .go st' => e = .returned (.bool true) ∧ ∃ left' lst' nds' drs', RM X B R w' left' lst' nds' drs' st'.pos st'.list st'.gr ∧ LeftAt w' left' st'.left ∧ Below B w w' ∧ KT TS w w'
theorem takeF_err {g : Gr} {i : It} {s : ByteArray} {e : Int} (h : takeF g i s = .err e) : (e == 0) = false := by
  have key : e = 5 ∨ e = 6 ∨ e = 7 ∨ e = 8 ∨ e = 9 := by
    cases i with
    | word w => rw [take_word] at h; split at h <;> first | (cases h; done) | (injection h with h; omega)
    | bracket =>
      rw [take_bracket] at h
      split at h
      · split at h
        · injection h with h; omega
        · split at h <;> first | (cases h; done) | (injection h with h; omega)
      · injection h with h; omega
    | kind =>
      rw [take_kind] at h
      split at h
      · cases h
      · split at h
        · cases h
        · split at h <;> first | (cases h; done) | (injection h with h; omega)
    | inFile =>
      rw [take_inFile] at h
      split at h
      · cases h
      · split at h <;> first | (cases h; done) | (injection h with h; omega)
    | inDir =>
      rw [take_inDir] at h
      split at h
      · cases h
      · split at h <;> first | (cases h; done) | (injection h with h; omega)
    | name =>
      rw [take_name] at h
      split at h
      · injection h with h; omega
      · split at h <;> first | (cases h; done) | (injection h with h; omega)
    | data => rw [take_data] at h; split at h <;> first | (cases h; done) | (injection h with h; omega)
  rw [beq_eq_false_iff_ne]
  omega
section
variable {X : Xt} {B R : Nat} {w : World} {left lst nds drs : Value} {pos : Nat} {list r : List It} {g : Gr} {l : Bs} {i : It}
theorem RM.rs (h : RM X B R w left lst nds drs pos list g) : ∃ ivs, ItsAt w R list ivs ∧ RdS X.ty B R w left lst nds drs (.string g.path) pos (ivs ++ X.tail) X.more := by
  obtain ⟨ivs, h1, h2⟩ := h.its
  refine ⟨ivs, h1, h.blk, h.BR, ?_, X.ok⟩
  rw [List.length_append, h1.len]; exact h2
theorem RM.back {w1 : World} {left1 lst1 : Value} {pos1 : Nat} {ivs : List IV} (h : RM X B R w left lst nds drs pos list g) (hr : RdS X.ty B R w1 left1 lst1 nds drs (.string g.path) pos1 (ivs ++ X.tail) X.more) (hk : KT TR w w1) (hi : ItsAt w R r ivs) : RM X B R w1 left1 lst1 nds drs pos1 r g := by
  refine ⟨hr.blk, hr.BR, ⟨ivs, hi.kept hk (by decide), ?_⟩, own_kt h.nd hk (by decide), own_kt h.dr hk (by decide)⟩
  have := hr.its
  rwa [List.length_append, hi.len] at this
theorem RM.rblk (h : RM X B R w left lst nds drs pos list g) : RBlk X.ty R w := ⟨_, _, _, _, _, _, _, _, _, h.blk⟩
theorem step_cons (h : RM X B R w left lst nds drs pos (i :: r) g) (hL : LeftAt w left l) (hl : l.length ≤ 100000000) (hp : pos ≤ 100000000) (hr : r.length ≤ 90000000)
    (k : FuncId) (hent : ∀ args w, (callFunc k args).run Tryz.prog w = .ok (.enter k args) w)
    (hsaid : ∀ x, IsIt w R i x → ∃ first cap, x = ⟨i.most, .func k, first, cap⟩ ∧ ∀ (w1 : World) (left1 lst1 : Value) (pos1 : Nat) (s : ByteArray), s.size ≤ 100 → Below B w w1 → KT TR w w1 → RM X B R w1 left1 lst1 nds drs pos1 r g → Calls Tryz.prog k (first ++ #[.string s] ++ cap) w1 (TakePost X B R w1 left1 pos1 r (takeF g i s))) :
    Calls Tryz.prog 90 #[.pointer (some ⟨R, 0, none⟩)] w (StepPost X B R w (stepF ⟨l, pos, i :: r, g⟩)) := by
  obtain ⟨ivs, h1, hrs⟩ := h.rs
  cases ivs with
  | nil => exact h1.elim
  | cons x y =>
    obtain ⟨first, cap, hx, hS⟩ := hsaid x h1.1
    have hmost : i.most ≤ 100 := by cases i <;> simp [It.most]
    have hyl := h1.2.len
    have htl := X.tl
    refine step_gen (y := y ++ X.tail) hrs hL hl hp (by rw [List.length_append, hyl]; omega) i.most hmost k first cap hx hent _ ?_ ?_ ?_
    · intro hc w' hb
      simp only [stepF, hc]
      exact ⟨rfl, hb⟩
    · intro er hc w' hbad hb _
      simp only [stepF, hc]
      exact ⟨rfl, hbad, hb, by rcases cutF_bad hc with rfl | rfl <;> rfl⟩
    · intro s rst c hc w1 left1 lst1 hr1 hL1 hb1 hk1
      have hcl := cutF_len hc
      have hM1 := h.back hr1 hk1 h1.2
      refine (hS w1 left1 lst1 (pos + c) ⟨s.toArray⟩ (by rw [ba_size]; omega) hb1 hk1 hM1).mono ?_
      intro e w2 hp2
      cases ht : takeF g i ⟨s.toArray⟩ with
      | err er =>
        rw [ht] at hp2
        obtain ⟨rfl, hb2⟩ := hp2
        refine .inr ⟨er, takeF_err ht, rfl, (hM1.new hb2).rblk, fun w' hbad hb _ => ?_⟩
        simp only [stepF, hc, ht]
        exact ⟨rfl, hbad, (below_ext hb1 (by have := h.lt; have := h.BR; omega) hb2).trans hb, takeF_err ht⟩
      | more g' push =>
        rw [ht] at hp2
        obtain ⟨rfl, lst2, nds2, drs2, hM2, hb2, hk2⟩ := hp2
        refine .inl ⟨rfl, ?_⟩
        simp only [stepF, hc, ht]
        exact ⟨rfl, left1, lst2, nds2, drs2, hM2, hL1.kept hk2 (by decide), hb1.trans hb2, (hk1.mono (by decide)).trans hk2⟩
theorem word_post (sw : ByteArray) (s : ByteArray) (bw : Nat) (h : RM X B R w left lst nds drs pos r g) (hb : w.heap[bw]? = some (.cells #[.string sw] 9 (0, 0))) :
    Calls Tryz.prog 66 #[.string s, .pointer (some ⟨bw, 0, none⟩)] w (TakePost X B R w left pos r (takeF g (.word sw) s)) := by
  refine (takeWord_any bw sw s w hb).mono ?_
  rintro e w' ⟨rfl, rfl⟩
  rw [take_word]
  by_cases hs : s = sw
  · rw [if_pos hs, if_pos hs]
    exact ⟨rfl, _, _, _, h, Below.refl _ _, KT.refl _ _⟩
  · rw [if_neg hs, if_neg hs]
    exact ⟨rfl, Below.refl _ _⟩
end
end Go.Proofs.YticfcjmlphhpgabGreatDoor
