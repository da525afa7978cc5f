import Derived.Test.YticfcjmlphhpgabGreatDoorB22
namespace Go.Proofs.YticfcjmlphhpgabGreatDoor
open Go.RowKit

/-- Where a list lies. -/
def FootV (F : Nat → Prop) (v : Value) : Prop := ∀ ad n c, v = .slice (some ad) n c → F ad.block
def Foot (F : Nat → Prop) (v : Value) : Prop := ∀ t a n c, v = .agg #[t, .slice a n c] → FootV F (.slice a n c)
theorem FootV.mono {F F' : Nat → Prop} {v : Value} (h : FootV F v) (hF : ∀ k, F k → F' k) : FootV F' v := fun ad n c e => hF _ (h ad n c e)
theorem Foot.mono {F F' : Nat → Prop} {v : Value} (h : Foot F v) (hF : ∀ k, F k → F' k) : Foot F' v := fun t a n c e => (h t a n c e).mono hF
def PStF (F : Nat → Prop) (w : World) (b : Nat) (S : List Ent) : Prop := ∃ L, MapAt w b L ∧ EntsAt w L S ∧ ∀ x ∈ L, Foot (fun k => F k ∧ k < w.heap.size) x.2
theorem PStF.st {F : Nat → Prop} {w : World} {b : Nat} {S : List Ent} (h : PStF F w b S) : PSt w b S := by
  obtain ⟨L, h1, h2, _⟩ := h
  exact ⟨L, h1, h2⟩
theorem PStF.lt {F : Nat → Prop} {w : World} {b : Nat} {S : List Ent} (h : PStF F w b S) : b < w.heap.size := h.st.lt
theorem PStF.below {F : Nat → Prop} {w w' : World} {b : Nat} {S : List Ent} (h : PStF F w b S) (hb : Below w.heap.size w w') : PStF F w' b S := by
  obtain ⟨L, h1, h2, h3⟩ := h
  exact ⟨L, h1.blk (hb.block _ (World.ownsMap.lt h1)), h2.mono (fun v ss hs => hs.below hb), fun x hx => (h3 x hx).mono fun k hk => ⟨hk.1, Nat.lt_of_lt_of_le hk.2 hb.size⟩⟩
theorem PStF.mono {F F' : Nat → Prop} {w : World} {b : Nat} {S : List Ent} (h : PStF F w b S) (hF : ∀ k, F k → F' k) : PStF F' w b S := by
  obtain ⟨L, h1, h2, h3⟩ := h
  exact ⟨L, h1, h2, fun x hx => (h3 x hx).mono fun k hk => ⟨hF k hk.1, hk.2⟩⟩
theorem own_newF {F : Nat → Prop} {w : World} {base size n : Nat} {e : TypeId} {v : Value} {xs : List Value} (h : w.ownsRow base e size v n xs) (hF : ∀ k, base ≤ k → F k) : FootV (fun k => F k ∧ k < w.heap.size) v := fun ad n' c' e' => ⟨hF _ (own_new h ad n' c' e'), (h.lt _ (by rw [e']; rfl)).2⟩
theorem insK_memF {x y : Bs × Value} : ∀ {L : List (Bs × Value)}, y ∈ insK x L → y = x ∨ y ∈ L := insK_mem.1
theorem put_entF (F : Nat → Prop) (b : Nat) (S : List Ent) (x : Ent) (a : Option Addr) (n c : Nat) (w : World) (h : PStF F w b S) (hfo : FootV (fun k => F k ∧ k < w.heap.size) (.slice a n c)) (hx : SliceS w (.slice a n c) x.refs) (hl : x.refs.length ≤ 1000000000) (hS : ∀ e ∈ S, e.refs.length ≤ 1000000000) (hs : x.path.size ≤ 1000000000) :
    Calls Tryz.prog 51 #[.map (some b), .string x.path, .agg #[.string (packB x.nodes), .slice a n c]] w fun e w' => e = .returned (.int .i64 (putS S x).1) ∧ PStF F w' b (putS S x).2 ∧ Wrote b w w' := by
  have h0 := h
  obtain ⟨L, h1, h2, h3⟩ := h
  have hblt := World.ownsMap.lt h1
  have hlen := h2.length
  have hf := h2.find x.path
  unfold putS
  cases hfS : findS S x.path with
  | some e =>
    rw [hfS] at hf
    obtain ⟨a0, n0, c0, hf, hy⟩ := hf
    have hmem : e ∈ S := List.mem_of_find?_eq_some hfS
    refine (put_there b L x.path (packB x.nodes) (packB e.nodes) a a0 n c n0 c0 x.refs e.refs w h1 hf hx hy hl (hS e hmem) hs).mono ?_
    rintro en w' ⟨rfl, hb⟩
    exact ⟨rfl, h0.below hb, Wrote.of hblt hb⟩
  | none =>
    rw [hfS] at hf
    simp only at hf
    by_cases hfull : 10 ≤ S.length
    · simp only [if_pos hfull]
      refine (put_full b L x.path (packB x.nodes) a n c w h1 hf (by omega) hs).mono ?_
      rintro en w' ⟨rfl, hb⟩
      exact ⟨rfl, h0.below hb, Wrote.of hblt hb⟩
    · simp only [if_neg hfull]
      refine (put_new b L x.path (packB x.nodes) a n c w h1 hf (by omega) hs).mono ?_
      rintro en w' ⟨rfl, hm, hk, hB⟩
      refine ⟨rfl, ⟨_, hm, EntsAt.ins ⟨rfl, a, n, c, rfl, hx.kb h1 hk⟩ (h2.mono (fun v ss hs => hs.kb h1 hk)), fun y hy => ?_⟩, hk, hB⟩
      rcases insK_memF hy with rfl | hy
      · intro t a' n' c' e'
        injection e' with e'
        injection e' with e'
        injection e' with e1 e2
        injection e2 with e2 _
        rw [← e2]; exact hfo.mono fun k hk' => ⟨hk'.1, Nat.lt_of_lt_of_le hk'.2 hk.size⟩
      · exact (h3 y hy).mono fun k hk' => ⟨hk'.1, Nat.lt_of_lt_of_le hk'.2 hk.size⟩
set_option maxRecDepth 20000 in
set_option maxHeartbeats 2000000 in
theorem InsertF_any (F : Nat → Prop) (b : Nat) (S : List Ent) (x : Ent) (vn vr : Value) (w : World) (h : PStF F w b S) (hF : ∀ k, w.heap.size ≤ k → F k) (hT : Lib.Utf8Tabs 0 1 w) (hn : SliceN w vn x.nodes) (hsm : Small x.nodes) (hr : SliceS w vr x.refs) (hl : x.refs.length ≤ 1000000) (hrs : ∀ r ∈ x.refs, r.size ≤ 1000000000) (hS : ∀ e ∈ S, e.refs.length ≤ 1000000000) (hs : x.path.size ≤ 1000000000) :
    Calls Tryz.prog 27 #[.map (some b), .string x.path, vn, vr] w fun e w' => e = .returned (.int .i64 (insertF S x).1) ∧ PStF F w' b (insertF S x).2 ∧ Wrote b w w' := by
  have hblt := h.lt
  obtain ⟨R, hR⟩ : ∃ R, insertF S x = R := ⟨_, rfl⟩
  rw [hR]
  unfold insertF at hR
  have hb0 := ((Below.refl _ w).alloc (Nat.le_refl _) (.cells #[.map (some b)] 60)).alloc (by simp) (.cells #[.string x.path] 9)
  have cI := hide (isPath_any x.path ((w.alloc (.cells #[.map (some b)] 60)).alloc (.cells #[.string x.path] 9)) hs)
  have hm0 : ((w.alloc (.cells #[.map (some b)] 60)).alloc (.cells #[.string x.path] 9)).heap[w.heap.size]? = some (.cells #[.map (some b)] 60 (0, 0)) := block_keep _ (block_new w _)
  have hp0 : ((w.alloc (.cells #[.map (some b)] 60)).alloc (.cells #[.string x.path] 9)).heap[w.heap.size + 1]? = some (.cells #[.string x.path] 9 (0, 0)) := by
    have := block_new (w.alloc (.cells #[.map (some b)] 60)) (.cells #[.string x.path] 9)
    rwa [World.size_alloc] at this
  have cP := hide (treePack_any vn x.nodes _ (Utf8Tabs_below hT hb0) (hn.below hb0) hsm)
  have HB0 := hide hb0
  have HM0 := hide hm0
  have HP0 := hide hp0
  have H := hide h
  have HF := hide hF
  have HR := hide hr
  have HRS := hide hrs
  have HSS := hide hS
  cases hpath : isPathB x.path.data.toList with
  | false =>
    rw [hpath, if_pos rfl] at hR
    rw [hpath] at cI
    subst hR
    clear hb0 hm0 hp0 h hF hr hn hT cP
    go_enter Tryz.func27, Tryz.ntmps27
    go_wp2_with fail
    refine cI.out.mono ?_
    rintro e w1 ⟨rfl, rfl⟩
    go_wp2
    go_ret
    exact ⟨rfl, H.out.below HB0.out, Wrote.of hblt HB0.out⟩
  | true =>
    rw [hpath, if_neg (by simp)] at hR
    rw [hpath] at cI
    cases hw : firstW x.nodes with
    | some k =>
      rw [hw, if_pos (by simp)] at hR
      subst hR
      rw [packRes_some hw] at cP
      clear hb0 hm0 hp0 h hF hr hn hT hw
      go_enter Tryz.func27, Tryz.ntmps27
      go_wp2_with fail
      refine cI.out.mono ?_
      rintro e w1 ⟨rfl, rfl⟩
      go_wp2_with fail
      refine cP.out.mono ?_
      rintro e w2 ⟨rfl, hb2⟩
      have hb2' := HB0.out.trans (hb2.mono HB0.out.size)
      go_wp2
      go_ret
      exact ⟨rfl, H.out.below hb2', Wrote.of hblt hb2'⟩
    | none =>
      rw [hw, if_neg (by simp)] at hR
      rw [packRes_none hw] at cP
      clear hb0 hm0 hp0 h hF hr hn hT hw
      go_enter Tryz.func27, Tryz.ntmps27
      go_wp2_with fail
      refine cI.out.mono ?_
      rintro e w1 ⟨rfl, rfl⟩
      go_wp2_with fail
      refine cP.out.mono ?_
      rintro e w2 ⟨rfl, hb2⟩
      have HB2 := hide (HB0.out.trans (hb2.mono HB0.out.size))
      have HM2 := hide ((hb2.block _ (lt_of_block HM0.out)).trans HM0.out)
      have HP2 := hide ((hb2.block _ (lt_of_block HP0.out)).trans HP0.out)
      have cR := hide (rise_any vr x.refs w2 (HR.out.below HB2.out) (by omega))
      clear cP cI hb2 HM0 HP0 HB0
      have hmf : ∀ (fn : Fn) (first cap : Array Value) (w : World), (Instr.makeFunc fn first cap).run Tryz.prog w = .ok (.func fn first cap) w := fun _ _ _ _ => rfl
      have c5 : w2.cell? ⟨w.heap.size + 1, 0, none⟩ = some (.string x.path) := by simp [World.cell?, HP2.out]
      have c4 : w2.cell? ⟨w.heap.size, 0, none⟩ = some (.map (some b)) := by simp [World.cell?, HM2.out]
      cases hrise : riseL x.refs with
      | false =>
        rw [hrise, if_pos rfl] at hR
        rw [hrise] at cR
        subst hR
        go_wp2_with fail
        refine cR.out.mono ?_
        rintro e w3 ⟨rfl, hb3⟩
        have hb3' := HB2.out.trans (hb3.mono HB2.out.size)
        go_wp2
        go_ret
        exact ⟨rfl, H.out.below hb3', Wrote.of hblt hb3'⟩
      | true =>
        rw [hrise, if_neg (by simp)] at hR
        rw [hrise] at cR
        go_wp2_with fail
        refine cR.out.mono ?_
        rintro e w3 ⟨rfl, hb3⟩
        have HB3 := hide (HB2.out.trans (hb3.mono HB2.out.size))
        have HM3 := hide ((hb3.block _ (lt_of_block HM2.out)).trans HM2.out)
        have HP3 := hide ((hb3.block _ (lt_of_block HP2.out)).trans HP2.out)
        clear c5 c4 cR hb3
        have cC := hide (ContainsFunc_two vr x.refs (.pointer (some ⟨w.heap.size, 0, none⟩)) (.pointer (some ⟨w.heap.size + 1, 0, none⟩)) 49 (lackS S x.path) w3 (HR.out.below HB3.out) (by omega) (fun args w => by kernel_rfl) (fun r hr w4 hb4 => by
          obtain ⟨L, h1, h2⟩ := (H.out.st.below HB3.out).below hb4
          have := noRef_any (w.heap.size + 1) w.heap.size b x.path r L w4 ((hb4.block _ (lt_of_block HP3.out)).trans HP3.out) ((hb4.block _ (lt_of_block HM3.out)).trans HM3.out) h1 h2.ents (HRS.out r hr)
          rw [h2.none] at this
          exact this))
        have c5 : w3.cell? ⟨w.heap.size + 1, 0, none⟩ = some (.string x.path) := by simp [World.cell?, HP3.out]
        have c4 : w3.cell? ⟨w.heap.size, 0, none⟩ = some (.map (some b)) := by simp [World.cell?, HM3.out]
        cases hany : x.refs.any (lackS S x.path) with
        | true =>
          rw [hany, if_pos rfl] at hR
          rw [hany] at cC
          subst hR
          go_wp2_with fail
          refine cC.out.mono ?_
          rintro e w4 ⟨rfl, hb4⟩
          have hb4' := HB3.out.trans (hb4.mono HB3.out.size)
          go_wp2
          go_ret
          exact ⟨rfl, H.out.below hb4', Wrote.of hblt hb4'⟩
        | false =>
          rw [hany, if_neg (by simp)] at hR
          rw [hany] at cC
          subst hR
          go_wp2_with fail
          refine cC.out.mono ?_
          rintro e w4 ⟨rfl, hb4⟩
          have HB4 := hide (HB3.out.trans (hb4.mono HB3.out.size))
          have HM4 := hide ((hb4.block _ (lt_of_block HM3.out)).trans HM3.out)
          have HP4 := hide ((hb4.block _ (lt_of_block HP3.out)).trans HP3.out)
          clear c5 c4 cC hb4
          have c5 : w4.cell? ⟨w.heap.size + 1, 0, none⟩ = some (.string x.path) := by simp [World.cell?, HP4.out]
          have c4 : w4.cell? ⟨w.heap.size, 0, none⟩ = some (.map (some b)) := by simp [World.cell?, HM4.out]
          go_wp2
          go_region_with (first
            | (go_at_call 52; refine (copied_any vr x.refs _ (HR.out.below (HB4.out.drew)) (by omega) HRS.out).mono ?_; rintro e w5 ⟨v5, rfl, hown5, hb5⟩; have hS5 := own_strs hown5; have HNEW := hide (own_newF hown5 (fun k hk => HF.out k (Nat.le_trans HB4.out.size hk))); obtain ⟨a5, cap5, rfl, hc5⟩ := own_sl hown5; have hb5' := hide (HB4.out.drew.trans (hb5.mono HB4.out.drew.size)); have HM5 := hide ((hb5.block _ (lt_of_block HM4.out)).trans HM4.out); have HP5 := hide ((hb5.block _ (lt_of_block HP4.out)).trans HP4.out); have c55 : w5.cell? ⟨w.heap.size + 1, 0, none⟩ = some (.string x.path) := (by simp [World.cell?, HP5.out]); have c45 : w5.cell? ⟨w.heap.size, 0, none⟩ = some (.map (some b)) := (by simp [World.cell?, HM5.out]); have HS5 := hide hS5; clear hown5 hb5 hS5)
            | (go_at_call 51; refine (put_entF F b S x a5 x.refs.length cap5 w5 (H.out.below hb5'.out) HNEW.out HS5.out (by omega) HSS.out hs).mono ?_; rintro e w6 ⟨rfl, hP6, hW6⟩))
          all_goals
            go_wp2
            go_ret
            exact ⟨rfl, hP6, (Wrote.of hblt hb5'.out).trans hW6⟩
/-- A store of the program's, and where its lists lie. -/
def NStF (F : Nat → Prop) (w : World) (q b : Nat) (S : List Ent) : Prop := w.heap[q]? = some (.cells #[.map (some b)] 63 (0, 0)) ∧ PStF F w b S
theorem NStF.st {F : Nat → Prop} {w : World} {q b : Nat} {S : List Ent} (h : NStF F w q b S) : NSt w q b S := ⟨h.1, h.2.st⟩
theorem NStF.wrote {F : Nat → Prop} {w w' : World} {q b : Nat} {S S' : List Ent} (h : NStF F w q b S) (hW : Wrote b w w') (hP : PStF F w' b S') : NStF F w' q b S' := ⟨(h.st.wrote hW hP.st).1, hP⟩
set_option maxRecDepth 20000 in
set_option maxHeartbeats 2000000 in
theorem narInsertF_any (F : Nat → Prop) (q b : Nat) (S : List Ent) (x : Ent) (vn vr : Value) (w : World) (h : NStF F w q b S) (hF : ∀ k, w.heap.size ≤ k → F k) (hT : Lib.Utf8Tabs 0 1 w) (hn : SliceN w vn x.nodes) (hsm : Small x.nodes) (hr : SliceS w vr x.refs) (hl : x.refs.length ≤ 1000000) (hrs : ∀ r ∈ x.refs, r.size ≤ 1000000000) (hS : ∀ e ∈ S, e.refs.length ≤ 1000000000) (hs : x.path.size ≤ 1000000000) :
    Calls Tryz.prog 14 #[.pointer (some ⟨q, 0, none⟩), .string x.path, vn, vr] w fun e w' => e = .returned (.int .i64 (insertF S x).1) ∧ NStF F w' q b (insertF S x).2 ∧ Wrote b w w' := by
  have cE := hide (entries_any q b w h.1)
  have cI := hide (InsertF_any F b S x vn vr w h.2 hF hT hn hsm hr hl hrs hS hs)
  have H := hide h
  clear h hT hn hr
  go_enter Tryz.func14, Tryz.ntmps14
  go_wp2_with fail
  refine cE.out.mono ?_
  rintro e w1 ⟨rfl, rfl⟩
  go_wp2_with fail
  refine cI.out.mono ?_
  rintro e w2 ⟨rfl, hP, hW⟩
  go_wp2
  go_ret
  exact ⟨rfl, H.out.wrote hW hP, hW⟩
end Go.Proofs.YticfcjmlphhpgabGreatDoor
