import Derived.Test.YticfcjmlphhpgaaGreatDoorA28
import Derived.Test.YticfcjmlphhpgaaGreatDoorA31
/-
  THE DOCUMENT's STORES: Insert, and which blocks a store's lists lie in.
-/
namespace Go.Proofs.YticfcjmlphhpgaaGreatDoor
open Go.RowKit

def REFoot (F : Nat → Prop) (x : REn) : Prop := FootV F x.tree ∧ FootV F x.refs
theorem REFoot.mono {F F' : Nat → Prop} {x : REn} (h : REFoot F x) (hF : ∀ k, F k → F' k) : REFoot F' x := ⟨h.1.mono hF, h.2.mono hF⟩
def RStF (F : Nat → Prop) (w : World) (b : Nat) (S : List Ent) : Prop := ∃ v l, w.heap[b]? = some (.cells #[v] 48 (0, 0)) ∧ SliceE w v l ∧ REsAt w l S ∧ (S = [] → v = .slice none 0 0) ∧ FootV (fun k => F k ∧ k < w.heap.size) v ∧ ∀ y ∈ l, REFoot (fun k => F k ∧ k < w.heap.size) y
theorem RStF.st {F : Nat → Prop} {w : World} {b : Nat} {S : List Ent} (h : RStF F w b S) : RSt w b S := by
  obtain ⟨v, l, h1, h2, h3, h4, _⟩ := h
  exact ⟨v, l, h1, h2, h3, h4⟩
theorem RStF.lt {F : Nat → Prop} {w : World} {b : Nat} {S : List Ent} (h : RStF F w b S) : b < w.heap.size := h.st.lt
theorem RStF.below {F : Nat → Prop} {w w' : World} {b : Nat} {S : List Ent} (h : RStF F w b S) (hb : Below w.heap.size w w') : RStF F w' b S := by
  obtain ⟨v, l, h1, h2, h3, h4, h5, h6⟩ := h
  exact ⟨v, l, (hb.block _ (lt_of_block h1)).trans h1, h2.below hb, h3.mono (fun v ns h => h.below hb) (fun v ss h => h.below hb), h4, h5.mono fun k hk => ⟨hk.1, Nat.lt_of_lt_of_le hk.2 hb.size⟩, fun y hy => (h6 y hy).mono fun k hk => ⟨hk.1, Nat.lt_of_lt_of_le hk.2 hb.size⟩⟩
theorem insR_mem {l : List REn} {x y : REn} (h : y ∈ insR l x) : y = x ∨ y ∈ l := by
  unfold insR at h
  rcases List.mem_append.1 h with h | h
  · rcases List.mem_append.1 h with h | h
    · exact .inr (List.mem_of_mem_take h)
    · exact .inl (List.mem_singleton.1 h)
  · exact .inr (List.mem_of_mem_drop h)
theorem RStF.put {F : Nat → Prop} {w1 w8 w10 : World} {b n c : Nat} {a : Option Addr} {S : List Ent} {x : Ent} {v : Value} {l : List REn} {y : REn} (hre : REsAt w8 l S) (hx : REAt w8 y x) (hf : findS S x.path = none)
    (ho : w10.ownsRow w8.heap.size 76 3 v (insR l y).length (flatR (insR l y))) (hb : Below w8.heap.size w8 w10) (hk : w10.heap[b]? = some (.cells #[.slice a n c] 48 (0, 0))) (hb8 : Below w1.heap.size w1 w8) (hblt : b < w1.heap.size) (hF : ∀ k, w1.heap.size ≤ k → F k) (h6 : ∀ y ∈ l, REFoot (fun k => F k ∧ k < w1.heap.size) y) (hy : REFoot (fun k => F k ∧ k < w8.heap.size) y) :
    RStF F (w10.setCell ⟨b, 0, none⟩ v) b (insS x S) ∧ Wrote b w1 (w10.setCell ⟨b, 0, none⟩ v) := by
  have hz : (w10.setCell ⟨b, 0, none⟩ v).heap.size = w10.heap.size := by simp [World.setCell]
  obtain ⟨⟨v', l', h1, h2, h3, h4⟩, hW⟩ := RSt.put hre hx hf ho hb hk hb8 hblt
  refine ⟨⟨v, insR l y, set_blk hk 0 v, own_ents (own_keepT ho (set_keepT hk (by decide))), (REsAt.ins hx hre hf).mono (fun v ns h => sliceN_set hk (h.below hb)) (fun v ss h => sliceS_set hk (h.below hb)), fun e => ?_, (own_newF ho (fun k hk => hF k (Nat.le_trans hb8.size hk))).mono (fun k hk => ⟨hk.1, by rw [hz]; exact hk.2⟩), fun z hz' => ?_⟩, hW⟩
  · have := h4 e
    rw [set_blk hk 0 v] at h1
    injection h1 with h1
    injection h1 with h1 _ _
    have : #[v] = #[v'] := h1
    injection this with this
    injection this with this _
    rw [this]; assumption
  · rw [hz]
    rcases insR_mem hz' with rfl | hz'
    · exact hy.mono fun k hk => ⟨hk.1, Nat.lt_of_lt_of_le hk.2 hb.size⟩
    · exact (h6 z hz').mono fun k hk => ⟨hk.1, Nat.lt_of_lt_of_le hk.2 (Nat.le_trans hb8.size hb.size)⟩
set_option maxRecDepth 20000 in
set_option maxHeartbeats 8000000 in
theorem rInsertF_any (F : Nat → Prop) (b : Nat) (S : List Ent) (x : Ent) (vn vr : Value) (w : World) (h : RStF F w b S) (hF : ∀ k, w.heap.size ≤ k → F k) (hG : GoodS S) (hn : SliceN w vn x.nodes) (hsm : Small x.nodes) (hbk : refWrong x.nodes = none → bulk x.nodes ≤ 1000000000) (hr : SliceS w vr x.refs) (hl : x.refs.length ≤ 1000000) (hs : x.path.size ≤ 1000000000) (hnil : ∀ n c, vr = .slice none n c → n = 0 ∧ c = 0) :
    Calls Tryz.prog 20 #[.pointer (some ⟨b, 0, none⟩), .string x.path, vn, vr] w fun e w' => e = .returned (.int .i64 (insertF S x).1) ∧ RStF F w' b (insertF S x).2 ∧ Wrote b w w' := by
  have hblt := h.lt
  obtain ⟨R, hR⟩ : ∃ R, insertF S x = R := ⟨_, rfl⟩
  rw [hR]
  unfold insertF at hR
  have cI := hide (rpath_any x.path w hs)
  have cP := hide (Wrong_any vn x.nodes w hn hsm)
  have H := hide h
  have HF := hide hF
  have HN := hide hn
  have HR := hide hr
  have hGf := hG.few
  have HG := hide hG
  clear h hF hn hr hG
  cases hpath : isPathB x.path.data.toList with
  | false =>
    rw [hpath, if_pos rfl] at hR
    rw [hpath] at cI
    subst hR
    clear cP
    go_enter Tryz.func20, Tryz.ntmps20
    go_wp2_with fail
    refine cI.out.mono ?_
    rintro e w1 ⟨rfl, rfl⟩
    go_wp2
    go_ret
    exact ⟨rfl, H.out, Wrote.of hblt (Below.refl _ _)⟩
  | true =>
    rw [hpath, if_neg (by simp)] at hR
    rw [hpath] at cI
    rw [firstW_ref] at hR
    cases hw : refWrong x.nodes with
    | some k =>
      rw [hw, if_pos (by simp)] at hR
      subst hR
      rw [hw] at cP
      simp only [wInt] at cP
      go_enter Tryz.func20, Tryz.ntmps20
      go_wp2_with fail
      refine cI.out.mono ?_
      rintro e w1 ⟨rfl, rfl⟩
      go_wp2_with fail
      refine cP.out.mono ?_
      rintro e w2 ⟨rfl, hb2⟩
      go_wp2
      go_ret
      exact ⟨rfl, H.out.below hb2, Wrote.of hblt hb2⟩
    | none =>
      rw [hw, if_neg (by simp)] at hR
      rw [hw] at cP
      simp only [wInt] at cP
      have HT := hide (IsTree.mk hw hsm (hbk hw))
      obtain ⟨ar, cr, hvr, _, hcr⟩ := HR.out
      subst hvr
      have hnil' : ar = none → x.refs.length = 0 ∧ cr = 0 := fun e => by subst e; exact hnil _ _ rfl
      clear hnil
      go_enter Tryz.func20, Tryz.ntmps20
      go_wp2_with fail
      refine cI.out.mono ?_
      rintro e w1 ⟨rfl, rfl⟩
      go_wp2_with fail
      refine cP.out.mono ?_
      rintro e w2 ⟨rfl, hb2⟩
      have HB2 := hide hb2
      clear cI cP hb2
      go_wp2
      go_loopw [9, 22] (fun _ i w3 => ∃ j n : Nat, j ≤ x.refs.length ∧ i = .int .i64 j ∧ Hid (w3 = w2.drewN n) ∧ Hid (∀ k (hk : k + 1 < x.refs.length), k + 1 < j → notAbove x.refs[k + 1] x.refs[k] = false)) (fun _ i _ => x.refs.length - (intOf i).toNat)
      case atStart => exact ⟨0, 0, by omega, rfl, rfl, fun k _ hk => by omega⟩
      case round =>
        obtain ⟨j, n, hj, rfl, HW, hall⟩ := hrel
        by_cases hlt : j < x.refs.length
        · have hltz : (j : Int) < x.refs.length := by omega
          cases j with
          | zero =>
            have hdec : decide ((0 : Int) < 0) = false := rfl
            have hall' : Hid (∀ k (hk : k + 1 < x.refs.length), k + 1 < 1 → notAbove x.refs[k + 1] x.refs[k] = false) := fun k _ hk => by omega
            clear hall
            go_wp2
            go_quiet (fail)
            go_wp2
            go_roundw
            case rel => exact ⟨1, n + nq, by omega, by go_num, by show _ = _; rw [HW.out, World.drewN_drewN], hall'⟩
            case measure => simp [intOf]; omega
          | succ j =>
            obtain ⟨b1, off1, rfl, hb1, hC1⟩ := hcr (by omega)
            have hcl : ∀ a : Addr, a.block = b1 → wr.cell? a = w1.cell? a := fun a ha => by rw [HW.out]; simp; exact HB2.out.cell (by omega)
            have c0 := (hcl ⟨b1, off1 + (j + 1), none⟩ rfl).trans (hC1 (j + 1) hlt)
            have c1 := (hcl ⟨b1, off1 + j, none⟩ rfl).trans (hC1 j (by omega))
            have hdec : decide ((0 : Int) < ((j + 1 : Nat) : Int)) = true := decide_eq_true (by omega)
            have hpos : (0 : Int) < ((j + 1 : Nat) : Int) := by omega
            have hsub : ((j + 1 : Nat) : Int) - 1 = j := by omega
            cases hna : notAbove x.refs[j + 1] x.refs[j] with
            | true =>
              have hrise : riseL x.refs = false := riseL_no j hlt hna
              rw [hrise, if_pos rfl] at hR
              subst hR
              unfold notAbove at hna
              generalize x.refs[j + 1] = z at c0 hna
              generalize x.refs[j] = y at c1 hna
              clear hall hcl hC1
              go_wp2
              go_quiet (fail)
              go_wp2
              go_ret
              have hb3 : Below w1.heap.size w1 (wr.drewN nq) := by rw [HW.out, World.drewN_drewN]; exact below_drewN HB2.out _
              exact ⟨rfl, H.out.below hb3, Wrote.of hblt hb3⟩
            | false =>
              have hall' : Hid (∀ k (hk : k + 1 < x.refs.length), k + 1 < j + 1 + 1 → notAbove x.refs[k + 1] x.refs[k] = false) := fun k hk hkj => by
                by_cases e' : k = j
                · subst e'; exact hna
                · exact hall.out k hk (by omega)
              unfold notAbove at hna
              generalize x.refs[j + 1] = z at c0 hna
              generalize x.refs[j] = y at c1 hna
              clear hall hcl hC1
              go_wp2
              go_quiet (fail)
              go_wp2
              go_roundw
              case rel => exact ⟨j + 1 + 1, n + nq, by omega, by go_num, by show _ = _; rw [HW.out, World.drewN_drewN], hall'⟩
              case measure => simp [intOf]; omega
        · have hrise : riseL x.refs = true := riseL_yes (fun k hk => hall.out k hk (by omega))
          rw [hrise, if_neg (by simp)] at hR
          have hltz : ¬ (j : Int) < x.refs.length := by omega
          have HB3 : Hid (Below w1.heap.size w1 wr) := by rw [HW.out]; exact below_drewN HB2.out _
          clear hall HW HB2 hrise
          obtain ⟨v, l, hS1, hS2, hS3, hS4, _, hS6⟩ := H.out
          obtain ⟨av, cv, hv, hcv, hcE⟩ := hS2
          subst hv
          have HS1 := hide hS1
          have HS2 : Hid (SliceE w1 (.slice av l.length cv) l) := ⟨av, cv, rfl, hcv, hcE⟩
          have HS3 := hide hS3
          have HS4 := hide hS4
          have HS6 := hide hS6
          have HLEN := hide hS3.length
          have hl10 : l.length ≤ 10 := by have := HLEN.out; omega
          clear hS1 hS3 hS4 hcE hS6
          go_wp2
          go_loopw [11, 42] (fun _ i w4 => ∃ j : Nat, j ≤ x.refs.length ∧ i = .int .i64 j ∧ Hid (Below w1.heap.size w1 w4) ∧ Hid (∀ k (hk : k < x.refs.length), k < j → lackS S x.path x.refs[k] = false)) (fun _ i _ => x.refs.length - (intOf i).toNat)
          case atStart => exact ⟨0, by omega, rfl, HB3, hide (fun k _ hk => by omega)⟩
          case round =>
            obtain ⟨j2, hj2, rfl, HB4, hall⟩ := hrel
            by_cases hlt2 : j2 < x.refs.length
            · have hltz2 : (j2 : Int) < x.refs.length := by omega
              obtain ⟨b1, off1, rfl, hb1, hC1⟩ := hcr (by omega)
              have c0 := (HB4.out.cell (p := ⟨b1, off1 + j2, none⟩) hb1).trans (hC1 j2 hlt2)
              by_cases er : x.refs[j2] = x.path
              · have hb : (x.refs[j2].toList == x.path.toList) = true := by rw [er]; simp
                have hall' : Hid (∀ k (hk : k < x.refs.length), k < j2 + 1 → lackS S x.path x.refs[k] = false) := fun k hk hkj => by
                  by_cases e' : k = j2
                  · subst e'; unfold lackS; rw [decide_eq_true er]; rfl
                  · exact hall.out k hk (by omega)
                generalize x.refs[j2] = z at c0 hb
                clear hall hC1 er
                go_wp2
                go_roundw
                case rel => exact ⟨j2 + 1, by omega, by go_num, HB4, hall'⟩
                case measure => simp [intOf]; omega
              · have hb := eqB_false er
                have cc : wr.cell? ⟨b, 0, none⟩ = some (.slice av l.length cv) := by
                  have := (HB4.out.block b (lt_of_block HS1.out)).trans HS1.out
                  simp [World.cell?, this]
                have cA := hide (at_any (.slice av l.length cv) l x.refs[j2] wr (HS2.out.below HB4.out) (by omega))
                rcases HS3.out.find x.refs[j2] with ⟨hf1, hf2⟩ | ⟨k, hk1, hk2, hf1, hf2⟩
                · have hlack : lackS S x.path x.refs[j2] = true := by unfold lackS; rw [decide_eq_false er, hf1]; rfl
                  have hany : x.refs.any (lackS S x.path) = true := List.any_eq_true.2 ⟨x.refs[j2], List.getElem_mem _, hlack⟩
                  rw [hany, if_pos rfl] at hR
                  subst hR
                  rw [hf2] at cA
                  generalize x.refs[j2] = z at c0 hb cA
                  clear hall hC1 er hf1 hf2 hlack hany
                  go_wp2_with fail
                  refine cA.out.mono ?_
                  rintro e w5 ⟨rfl, hb5⟩
                  go_wp2
                  go_ret
                  have hb5' := HB4.out.trans (hb5.mono HB4.out.size)
                  exact ⟨rfl, H.out.below hb5', Wrote.of hblt hb5'⟩
                · have hall' : Hid (∀ k (hk : k < x.refs.length), k < j2 + 1 → lackS S x.path x.refs[k] = false) := fun i hi hij => by
                    by_cases e' : i = j2
                    · subst e'; unfold lackS; rw [decide_eq_false er, hf2]; rfl
                    · exact hall.out i hi (by omega)
                  rw [hf1] at cA
                  have hkz : ¬ (k : Int) < 0 := by omega
                  generalize x.refs[j2] = z at c0 hb cA
                  clear hall hC1 er hf1 hf2
                  go_wp2_with fail
                  refine cA.out.mono ?_
                  rintro e w5 ⟨rfl, hb5⟩
                  go_wp2
                  go_roundw
                  case rel => exact ⟨j2 + 1, by omega, by go_num, hide (HB4.out.trans (hb5.mono HB4.out.size)), hall'⟩
                  case measure => simp [intOf]; omega
            · have hany : x.refs.any (lackS S x.path) = false := by
                rw [List.any_eq_false]
                intro y hy
                obtain ⟨k, hk, rfl⟩ := List.getElem_of_mem hy
                rw [hall.out k hk (by omega)]; simp
              rw [hany, if_neg (by simp)] at hR
              have hltz2 : ¬ (j2 : Int) < x.refs.length := by omega
              clear hall hany hltz hlt
              obtain ⟨i42, hi42, k420, k421, k422⟩ := info_parts Tryz.info42
              obtain ⟨i9, hi9, h90, h91, h92⟩ := info_parts Tryz.info9
              obtain ⟨hl30, hne, hkinds⟩ := len30 x.nodes HT.out.right
              have hnpos : 0 < x.nodes.length := List.length_pos_iff.2 hne
              obtain ⟨an, cn, hvn, hcn, hmn, _, hcN⟩ := HN.out
              subst hvn
              obtain ⟨bn, offn, hba, hbn, hNn⟩ := hcN hnpos
              subst hba
              have HC1 : Hid (∀ i u, (flat3 x.nodes)[i]? = some u → wr.cell? ((⟨bn, offn, none⟩ : Addr).add i) = some u) := hide (NodesAt.cells (hNn.below HB4.out hbn))
              have hsz4 := HB4.out.size
              clear hne hkinds hcN hNn
              generalize hM : x.nodes.length = M at *
              have hnil2 : ∀ n c, (Value.slice ar x.refs.length cr) = .slice none n c → n = 0 ∧ c = 0 := fun n c e => by
                injection e with e1 e2 e3
                have := hnil' e1
                omega
              go_wp2_with (first
                  | (at_builtin; refine wpList_append_own _ rfl (.const (.slice none 0 0)) (.tmp 60) 25 rfl wr.heap.size 42 i42 (.agg #[.string ⟨#[]⟩, .int .i64 0, .string ⟨#[]⟩]) 3 40 Tryz.underlying25 hi42 k420 k421 k422 rfl (by decide) (.slice none 0 0) 0 [] rfl (World.ownsRow_nil _ _ _ _) ⟨bn, offn, none⟩ M cn (flat3 x.nodes) rfl (by rw [flat3_length, hM]) HC1.out (flat3_one _) (by unfold maxLen; omega) (by omega) (Nat.le_refl _) ?_; intro v5 w5 hown5 hgrow5 hnil5; rw [Nat.zero_add, List.nil_append] at hown5; obtain ⟨a5, c5, rfl, hc5⟩ := own_sl hown5; have HB5 := hide ((Below.refl wr.heap.size wr).grown hgrow5 (Nat.le_refl _) (fun k hk => by cases hk)); have HO5 := hide hown5; have hsz5 := HB5.out.size; clear hown5 hgrow5 hnil5)
                  | (at_builtin; refine wpList_append_strs rfl (.tmp 62) rfl x.refs (.slice ar x.refs.length cr) rfl (HR.out.below (HB4.out.trans (HB5.out.mono hsz4))) hnil2 hl ?_; intro a6 c6 w6 hown6 hb6; have HB6 := hide hb6; have HO6 := hide hown6; have hsz6 := hb6.size; have c6b : w6.cell? ⟨b, 0, none⟩ = some (.slice av l.length cv) := (cell6 HB4.out HB5.out hb6 HS1.out); have c7b := cell7 c6b; clear hown6 hb6)
                  | (refine wpList_build76 rfl (.tmp 59) (.tmp 61) (.tmp 63) rfl _ _ _ _ _ _ _ rfl rfl rfl ?_))
              have HB6' : Hid (Below w1.heap.size w1 w6) := hide (HB4.out.trans ((HB5.out.trans (HB6.out.mono hsz5)).mono hsz4))
              have HB7 : Hid (Below w1.heap.size w1 (w6.alloc (.cells #[.string x.path, .slice a5 M c5, .slice a6 x.refs.length c6] 76))) := hide (HB6'.out.alloc (HB6'.out.size) _)
              have K7 : Hid ((w6.alloc (.cells #[.string x.path, .slice a5 M c5, .slice a6 x.refs.length c6] 76)).heap[w6.heap.size]? = some (.cells #[.string x.path, .slice a5 M c5, .slice a6 x.refs.length c6] 76 (0, 0))) := hide (block_new w6 _)
              have HN7 : Hid (SliceN (w6.alloc (.cells #[.string x.path, .slice a5 M c5, .slice a6 x.refs.length c6] 76)) (.slice a5 M c5) x.nodes) := hide (((own_nodes (by rw [hM]; exact HO5.out)).1.below HB6.out).below ((Below.refl _ _).alloc (Nat.le_refl _) _))
              have HS7 : Hid (SliceS (w6.alloc (.cells #[.string x.path, .slice a5 M c5, .slice a6 x.refs.length c6] 76)) (.slice a6 x.refs.length c6) x.refs) := hide ((own_strs HO6.out).below ((Below.refl _ _).alloc (Nat.le_refl _) _))
              have c7 := c7b (.cells #[.string x.path, .slice a5 M c5, .slice a6 x.refs.length c6] 76)
              have hz7 : w6.heap.size ≤ (w6.alloc (.cells #[.string x.path, .slice a5 M c5, .slice a6 x.refs.length c6] 76)).heap.size := by rw [World.size_alloc]; omega
              clear c7b c6b
              generalize w6.alloc (.cells #[.string x.path, .slice a5 M c5, .slice a6 x.refs.length c6] 76) = W7 at *
              have cA := hide (at_any (.slice av l.length cv) l x.path W7 (HS2.out.below HB7.out) (by omega))
              rcases HS3.out.find x.path with ⟨hf1, hf2⟩ | ⟨k, hk1, hk2, hf1, hf2⟩
              · unfold putS at hR
                rw [hf1] at hR
                rw [hf2] at cA
                simp only at hR
                have FS := hide hf1
                clear hf1 hf2
                by_cases hfull : 10 ≤ S.length
                · rw [if_pos hfull] at hR
                  subst hR
                  have hten : l.length = 10 := by have := HLEN.out; omega
                  rw [hten] at c7 cA
                  rw [hten]
                  refine cA.out.mono ?_
                  rintro e w8 ⟨rfl, hb8⟩
                  have HB8 := hide (HB7.out.trans (hb8.mono HB7.out.size))
                  have c8 : w8.cell? ⟨b, 0, none⟩ = some (.slice av 10 cv) := (hb8.cell (World.block_lt_of_cell? _ _ c7)).trans c7
                  go_wp2
                  go_ret
                  exact ⟨rfl, H.out.below HB8.out, Wrote.of hblt HB8.out⟩
                · rw [if_neg hfull] at hR
                  subst hR
                  have hlt10 : l.length < 10 := by have := HLEN.out; omega
                  have hnez : ((l.length : Int) == 10) = false := beq_eq_false_iff_ne.2 (by omega)
                  have hblk7 : W7.heap[b]? = some (.cells #[.slice av l.length cv] 48 (0, 0)) := (HB7.out.block b (lt_of_block HS1.out)).trans HS1.out
                  refine cA.out.mono ?_
                  rintro e w8 ⟨rfl, hb8⟩
                  have HB8 := hide (HB7.out.trans (hb8.mono HB7.out.size))
                  have c8 := cellB hb8 c7
                  have hz8 := hb8.size
                  have HBK := hide ((hb8.block b (lt_of_block hblk7)).trans hblk7)
                  have HSE := hide (HS2.out.below HB8.out)
                  have HRE := hide (HS3.out.mono (fun v ns h => h.below HB8.out) (fun v ss h => h.below HB8.out))
                  have HX : Hid (REAt w8 ⟨x.path, a5, M, c5, a6, x.refs.length, c6⟩ x) := hide ⟨rfl, HN7.out.below hb8, HS7.out.below hb8⟩
                  have q80 : w8.cell? ⟨w6.heap.size, 0, none⟩ = some (.string x.path) := cellB hb8 (by simp [World.cell?, K7.out])
                  have q81 : w8.cell? ⟨w6.heap.size, 1, none⟩ = some (.slice a5 M c5) := cellB hb8 (by simp [World.cell?, K7.out])
                  have q82 : w8.cell? ⟨w6.heap.size, 2, none⟩ = some (.slice a6 x.refs.length c6) := cellB hb8 (by simp [World.cell?, K7.out])
                  have HNIL : Hid (l = [] → Value.slice av l.length cv = .slice none 0 0) := hide fun e0 => HS4.out (List.eq_nil_of_length_eq_zero (by rw [← HLEN.out, e0]; rfl))
                  have cE : Hid (∀ V : World, Below w8.heap.size w8 V → Calls Tryz.prog 41 #[.slice av l.length cv, .agg #[.string x.path, .slice a5 M c5, .slice a6 x.refs.length c6]] V fun e w' => ∃ a' n' c', e = .returned (.slice a' n' c') ∧ (w'.ownsRow w8.heap.size 76 3 (.slice a' n' c') (insR l ⟨x.path, a5, M, c5, a6, x.refs.length, c6⟩).length (flatR (insR l ⟨x.path, a5, M, c5, a6, x.refs.length, c6⟩)) ∧ Below w8.heap.size w8 w') ∧ w'.heap[b]? = some (.cells #[.slice av l.length cv] 48 (0, 0))) := hide fun V hV => by
                    refine (rput_any (x := ⟨x.path, a5, M, c5, a6, x.refs.length, c6⟩) (HSE.out.below hV) hlt10 HNIL.out).mono ?_
                    rintro e w' ⟨v, rfl, hv, hb⟩
                    have hb' := hV.trans (hb.mono hV.size)
                    have hv' := own_base hv hV.size
                    obtain ⟨a', c', rfl, _⟩ := own_sl hv'
                    exact ⟨a', _, c', rfl, ⟨hv', hb'⟩, (hb'.block b (lt_of_block HBK.out)).trans HBK.out⟩
                  clear hb8 hblk7 cA c7
                  go_wp2
                  refine wp_mono (reg20_25 b w6.heap.size l.length cv av x.path a5 a6 M c5 x.refs.length c6 w8 c8 q80 q81 q82 (fun v w' => w'.ownsRow w8.heap.size 76 3 v (insR l ⟨x.path, a5, M, c5, a6, x.refs.length, c6⟩).length (flatR (insR l ⟨x.path, a5, M, c5, a6, x.refs.length, c6⟩)) ∧ Below w8.heap.size w8 w') cE.out _ _ _ _ _ _ _ _ _ _ _ _ _ _ _ _ _ _ _ _ _ _ _ _ _ _ _ _ _ _ _ _ _ _ _ _ _ _ _ _ _ _ _ _ _ _ _ _ _ _ _ _ _ _ _ _ _ _ _ _ _ _ _ _ _ _ _ _ _ _ _ _ _ _ _ _ _ _ _ _ _ _ _ _ _ _ _ _ _ _ _ _ _ _ _ _) (reg_then ?_)
                  rintro a w9 ⟨⟨v89, v90, v91, v92, v93, v94, v95, v96, v97, rfl⟩, v, w10, ⟨hO10, hb10⟩, rfl, hk10⟩
                  have HFIN := hide (RStF.put HRE.out HX.out FS.out hO10 hb10 hk10 HB8.out hblt HF.out HS6.out ⟨(own_newF HO5.out (fun k hk => HF.out k (Nat.le_trans HB4.out.size hk))).mono (fun k hk => ⟨hk.1, by have := hk.2; omega⟩), (own_newF HO6.out (fun k hk => HF.out k (Nat.le_trans (Nat.le_trans HB4.out.size hsz5) hk))).mono (fun k hk => ⟨hk.1, by have := hk.2; omega⟩)⟩)
                  clear hO10 hb10 hk10 q80 q81 q82 c8 cE
                  generalize w10.setCell ⟨b, 0, none⟩ v = W10 at HFIN ⊢
                  go_wp2
                  go_ret
                  exact ⟨rfl, HFIN.out⟩
              · unfold putS at hR
                rw [hf2] at hR
                rw [hf1] at cA
                simp only at hR
                obtain ⟨_, hy1, hy2⟩ := HS3.out.get k hk1 hk2
                have HY1 := hide (hy1.below HB7.out)
                have HY2 := hide (hy2.below HB7.out)
                have HTS := hide (HG.out.tree S[k] (List.getElem_mem _))
                have HLS := hide (HG.out.refs S[k] (List.getElem_mem _))
                obtain ⟨av', cv', ev, _, hcE⟩ := HS2.out
                obtain ⟨be, offe, hbe, hbl, hE⟩ := hcE (by omega)
                injection ev with ev1 _ _
                subst ev1
                subst hbe
                obtain ⟨e0, e1, e2⟩ := hE k hk1
                have e0' := (HB7.out.cell (p := ⟨be, offe + k * 3, none⟩) hbl).trans e0
                have e1' := (HB7.out.cell (p := ⟨be, offe + k * 3 + 1, none⟩) hbl).trans e1
                have e2' := (HB7.out.cell (p := ⟨be, offe + k * 3 + 2, none⟩) hbl).trans e2
                have q0 : W7.cell? ⟨w6.heap.size, 0, none⟩ = some (.string x.path) := by simp [World.cell?, K7.out]
                have q1 : W7.cell? ⟨w6.heap.size, 1, none⟩ = some (.slice a5 M c5) := by simp [World.cell?, K7.out]
                have q2 : W7.cell? ⟨w6.heap.size, 2, none⟩ = some (.slice a6 x.refs.length c6) := by simp [World.cell?, K7.out]
                obtain ⟨D, hD⟩ : ∃ D, (decide (packB S[k].nodes = packB x.nodes) && eqL S[k].refs x.refs) = D := ⟨_, rfl⟩
                have cE : Hid (∀ V : World, Below W7.heap.size W7 V → Calls Tryz.prog 40 #[.agg #[.string l[k].path, l[k].tree, l[k].refs], .agg #[.string x.path, .slice a5 M c5, .slice a6 x.refs.length c6]] V fun e w' => e = .returned (.bool D) ∧ Below V.heap.size V w') := hide fun V hV => by
                  rw [← hD]
                  exact rsame_any l[k] ⟨x.path, a5, M, c5, a6, x.refs.length, c6⟩ S[k].nodes x.nodes S[k].refs x.refs V (HY1.out.below hV) (HN7.out.below hV) HTS.out HT.out (HY2.out.below hV) (HS7.out.below hV) (by have := HLS.out; omega) (by omega)
                rw [hD] at hR
                clear hD HTS HLS hE hcE e0 e1 e2 hf1 hf2 hy1 hy2 HY1 HY2
                generalize l[k] = y at *
                obtain ⟨yp, ta, tn, tc, ra, rn, rc⟩ := y
                unfold REn.tree REn.refs at *
                simp only at e0' e1' e2' cE
                refine cA.out.mono ?_
                rintro e w8 ⟨rfl, hb8⟩
                have F8 : Hid (∀ a u, W7.cell? a = some u → w8.cell? a = some u) := hide fun a u h => (hb8.cell (World.block_lt_of_cell? _ _ h)).trans h
                have c8 := F8.out _ _ c7
                have e80 := F8.out _ _ e0'
                have e81 := F8.out _ _ e1'
                have e82 := F8.out _ _ e2'
                have q80 := F8.out _ _ q0
                have q81 := F8.out _ _ q1
                have q82 := F8.out _ _ q2
                have HB8 := hide hb8
                have HC40 : Hid (∀ V : World, Below w8.heap.size w8 V → Calls Tryz.prog 40 #[.agg #[.string yp, .slice ta tn tc, .slice ra rn rc], .agg #[.string x.path, .slice a5 M c5, .slice a6 x.refs.length c6]] V fun e w' => e = .returned (.bool D) ∧ Below V.heap.size V w') := hide fun V hV => cE.out V (HB8.out.trans (hV.mono HB8.out.size))
                have hkz : (0 : Int) ≤ (k : Int) := by omega
                have HB9 := hide (HB7.out.trans (HB8.out.mono HB7.out.size))
                clear hb8 cA F8 c7 e0' e1' e2' q0 q1 q2 cE
                go_wp2
                refine wp_mono (reg20_20 b w6.heap.size be offe l.length cv k yp x.path ta ra a5 a6 tn tc rn rc M c5 x.refs.length c6 D w8 hk1 c8 e80 e81 e82 q80 q81 q82 HC40.out _ _ _ _ _ _ _ _ _ _ _ _ _ _ _ _ _ _ _ _ _ _ _ _ _ _ _ _ _ _ _ _ _ _ _ _ _ _ _ _ _ _ _ _ _ _ _ _ _ _ _ _ _ _ _ _ _ _ _ _ _ _ _ _ _ _ _ _ _ _ _ _ _ _ _ _ _ _ _ _ _ _ _ _ _ _ _ _ _ _ _ _ _ _ _) (reg_then ?_)
                rintro a w9 ⟨⟨v73, v74, v75, v76, v77, v78, v79, v80, v81, rfl⟩, hb9⟩
                have HB10 := hide (HB9.out.trans (hb9.mono HB9.out.size))
                clear hb9 c8 e80 e81 e82 q80 q81 q82 HC40
                cases D with
                | true =>
                  rw [if_pos rfl] at hR
                  subst hR
                  go_wp2
                  go_ret
                  exact ⟨rfl, H.out.below HB10.out, Wrote.of hblt HB10.out⟩
                | false =>
                  rw [if_neg (by simp)] at hR
                  subst hR
                  go_wp2
                  go_ret
                  exact ⟨rfl, H.out.below HB10.out, Wrote.of hblt HB10.out⟩
end Go.Proofs.YticfcjmlphhpgaaGreatDoor
