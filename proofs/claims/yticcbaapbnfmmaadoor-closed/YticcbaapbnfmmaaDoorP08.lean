import Derived.Test.YticcbaapbnfmmaaDoorProg
import Derived.Test.YticcbaapbnfmmaaDoorP03
import Derived.Test.YticcbaapbnfmmaaDoorP07
import Derived.Shelf.Pu.Clone
namespace Go.Proofs
open Go.Shelf
def Tryd.laysClone_ren : Go.Shelf.Ren := ⟨fun | 25 => 37 | n => n, fun | 9 => 9 | 3 => 3 | 4 => 4 | 37 => 34 | 0 => 0 | 47 => 98 | 5 => 5 | n => n, fun | n => n⟩
theorem Tryd.laysClone : Go.Proofs.LaysPu.n25 Tryd.prog Tryd.laysClone_ren := {
  mixed := by kernel_rfl
  f25 := Tryd.func37.trans (congrArg some (by kernel_rfl))
  t0 := Tryd.underlying0
  a0 := Tryd.isAgg0
  z0 := Tryd.sizeOf0
  v0 := Tryd.zeroValue0
  i0 := by kernel_rfl
  t3 := Tryd.underlying3
  a3 := Tryd.isAgg3
  z3 := Tryd.sizeOf3
  v3 := Tryd.zeroValue3
  i3 := by kernel_rfl
  t4 := Tryd.underlying4
  a4 := Tryd.isAgg4
  z4 := Tryd.sizeOf4
  v4 := Tryd.zeroValue4
  i4 := by kernel_rfl
  t5 := Tryd.underlying5
  a5 := Tryd.isAgg5
  z5 := Tryd.sizeOf5
  v5 := Tryd.zeroValue5
  i5 := by kernel_rfl
  t9 := Tryd.underlying9
  a9 := Tryd.isAgg9
  z9 := Tryd.sizeOf9
  v9 := Tryd.zeroValue9
  i9 := by kernel_rfl
  t37 := Tryd.underlying34
  a37 := Tryd.isAgg34
  z37 := Tryd.sizeOf34
  v37 := Tryd.zeroValue34
  i37 := by kernel_rfl
  t47 := Tryd.underlying98
  a47 := Tryd.isAgg98
  z47 := Tryd.sizeOf98
  v47 := Tryd.zeroValue98
  i47 := by kernel_rfl }
open Go.RowKit in
theorem Tryd.stringslite_Clone (s : ByteArray) (w : World) (hs : s.size ≤ 281474976710656) :
    Calls Tryd.prog 37 #[.string s] w fun e w' => e = .returned (.string s) ∧ Below w.heap.size w w' := AnyPu.stringslite_Clone Tryd.laysClone s w hs
end Go.Proofs
namespace Go.Proofs.YticcbaapbnfmmaaDoor
open Go.RowKit

def inL (l : List ByteArray) (x : ByteArray) : Bool := l.any fun y => decide (x = y)
/-- Texts that rise. -/
def riseL (l : List ByteArray) : Bool := (List.range (l.length - 1)).all fun k => !notAbove (l.getD (k + 1) ⟨#[]⟩) (l.getD k ⟨#[]⟩)
theorem riseL_no {l : List ByteArray} (k : Nat) (h : k + 1 < l.length) (e : notAbove l[k + 1] l[k] = true) : riseL l = false := by
  unfold riseL
  rw [List.all_eq_false]
  refine ⟨k, List.mem_range.2 (by omega), ?_⟩
  rw [List.getD_eq_getElem?_getD, List.getD_eq_getElem?_getD, List.getElem?_eq_getElem h, List.getElem?_eq_getElem (show k < l.length by omega)]
  simp [e]
theorem riseL_yes {l : List ByteArray} (h : ∀ k (hk : k + 1 < l.length), notAbove l[k + 1] l[k] = false) : riseL l = true := by
  unfold riseL
  rw [List.all_eq_true]
  intro k hk
  have hk := List.mem_range.1 hk
  rw [List.getD_eq_getElem?_getD, List.getD_eq_getElem?_getD, List.getElem?_eq_getElem (show k + 1 < l.length by omega), List.getElem?_eq_getElem (show k < l.length by omega)]
  simp [h k (by omega)]

set_option maxRecDepth 20000 in
set_option maxHeartbeats 1000000 in
theorem rise_any (v : Value) (l : List ByteArray) (w : World) (h : SliceS w v l) (hl : l.length ≤ 1000000000) :
    Calls Tryd.prog 20 #[v] w fun e w' => e = .returned (.bool (riseL l)) ∧ Below w.heap.size w w' := by
  obtain ⟨a, cap, rfl, _, hx⟩ := h
  by_cases h0 : l.length = 0
  · rw [riseL_yes (fun k hk => by omega), h0]
    go_enter Tryd.func20, Tryd.ntmps20
    go_wp2
    refine wp_loop_rounds 1 ?_
    rw [rounds_succ]
    go_wp2
    go_ret
    exact ⟨rfl, Below.refl _ _⟩
  · obtain ⟨b, off, rfl, _, hX⟩ := hx (by omega)
    have HX := hide hX
    obtain ⟨T, hT⟩ : ∃ T, riseL l = T := ⟨_, rfl⟩
    rw [hT]
    have HT := hide hT
    clear hX hT hx
    go_enter Tryd.func20, Tryd.ntmps20
    go_wp2
    go_loopw [3] (fun i w1 => ∃ j n : Nat, j + 1 ≤ l.length ∧ i = .int .i64 ((j : Int) + 1) ∧ Hid (w1 = w.drewN n) ∧ Hid (∀ k (hk : k + 1 < l.length), k < j → notAbove l[k + 1] l[k] = false)) (fun i _ => l.length - (intOf i).toNat)
    case atStart => exact ⟨0, 0, by omega, rfl, rfl, fun k _ hk => by omega⟩
    case round =>
      obtain ⟨j, n, hj, rfl, HW, hall⟩ := hrel
      have hcl : ∀ a, wr.cell? a = w.cell? a := fun a => by rw [HW.out]; simp
      by_cases hlt : j + 1 < l.length
      · have c0 := HX.out (j + 1) hlt
        have c1 := HX.out j (by omega)
        rw [← hcl] at c0 c1
        have hltz : (j : Int) + 1 < l.length := by omega
        have hsub : (j : Int) + 1 - 1 = j := by omega
        cases e : notAbove l[j + 1] l[j] with
        | true =>
          have hTf : T = false := by rw [← HT.out]; exact riseL_no j hlt e
          subst hTf
          unfold notAbove at e
          generalize l[j + 1] = x at *
          generalize l[j] = y at *
          clear hcl hall HT
          go_wp2
          go_quiet (fail)
          go_wp2
          go_ret
          exact ⟨rfl, by rw [HW.out, World.drewN_drewN]; exact below_drewN (Below.refl _ _) _⟩
        | false =>
          have hall' : Hid (∀ k (hk : k + 1 < l.length), k < j + 1 → notAbove l[k + 1] l[k] = false) := fun k hk hkj => by
            by_cases e' : k = j
            · subst e'; exact e
            · exact hall.out k hk (by omega)
          unfold notAbove at e
          generalize l[j + 1] = x at c0 e
          generalize l[j] = y at c1 e
          clear hcl hall
          go_wp2
          go_quiet (fail)
          go_wp2
          go_roundw
          case rel => exact ⟨j + 1, n + nq, by omega, by go_num, by show _ = _; rw [HW.out, World.drewN_drewN], hall'⟩
          case measure => simp [intOf]; omega
      · have hTt : T = true := by rw [← HT.out]; exact riseL_yes (fun k hk => hall.out k hk (by omega))
        subst hTt
        have hltz : ¬ (j : Int) + 1 < l.length := by omega
        clear hcl HT hall
        go_wp2
        go_ret
        exact ⟨rfl, by rw [HW.out]; exact below_drewN (Below.refl _ _) n⟩

set_option maxRecDepth 20000 in
set_option maxHeartbeats 400000 in
theorem Clone_any (s : ByteArray) (w : World) (hs : s.size ≤ 1000000000) : Calls Tryd.prog 30 #[.string s] w fun e w' => e = .returned (.string s) ∧ Below w.heap.size w w' := by
  have cC := hide (Tryd.stringslite_Clone s w (by omega))
  go_enter Tryd.func30, Tryd.ntmps30
  go_wp2_with fail
  refine cC.out.mono ?_
  rintro e w1 ⟨rfl, hb⟩
  go_wp2
  go_ret
  exact ⟨rfl, hb⟩
end Go.Proofs.YticcbaapbnfmmaaDoor
namespace Go.Proofs.YticcbaapbnfmmaaDoor
open Go.RowKit

set_option maxRecDepth 20000 in
set_option maxHeartbeats 1000000 in
/-- To itself, or to what is there. -/
theorem mayRefer_any (b : Nat) (p r : ByteArray) (L : List (Bs × Value)) (w : World) (h : MapAt w b L) (hE : Ents L) (hr : r.size ≤ 1000000000) :
    Calls Tryd.prog 22 #[.map (some b), .string p, .string r] w fun e w' => e = .returned (.bool (!(!decide (r = p) && (findK L r.data.toList).isNone))) ∧ Below w.heap.size w w' := by
  by_cases e : r = p
  · subst e
    have hb : (r.toList == r.toList) = true := by simp
    rw [decide_eq_true rfl]
    go_enter Tryd.func22, Tryd.ntmps22
    go_wp2
    go_ret
    exact ⟨rfl, Below.refl _ _⟩
  · have hb := eqB_false e
    have cL := hide (lacks_any b L r w h hE hr)
    rw [decide_eq_false e]
    clear h hE
    go_enter Tryd.func22, Tryd.ntmps22
    go_wp2_with fail
    refine cL.out.mono ?_
    rintro e w1 ⟨rfl, hb1⟩
    go_wp2
    go_ret
    exact ⟨by cases findK L r.data.toList <;> rfl, hb1⟩
set_option maxRecDepth 20000 in
set_option maxHeartbeats 1000000 in
/-- The function that Insert hands on: not the path itself, and not there. -/
theorem noRef_any (pb mb b : Nat) (p r : ByteArray) (L : List (Bs × Value)) (w : World) (hp : w.heap[pb]? = some (.cells #[.string p] 9 (0, 0))) (hm : w.heap[mb]? = some (.cells #[.map (some b)] 39 (0, 0))) (h : MapAt w b L) (hE : Ents L) (hr : r.size ≤ 1000000000) :
    Calls Tryd.prog 21 #[.string r, .pointer (some ⟨mb, 0, none⟩), .pointer (some ⟨pb, 0, none⟩)] w fun e w' => e = .returned (.bool (!decide (r = p) && (findK L r.data.toList).isNone)) ∧ Below w.heap.size w w' := by
  have c0 : w.cell? ⟨pb, 0, none⟩ = some (.string p) := by simp [World.cell?, hp]
  have c1 : w.cell? ⟨mb, 0, none⟩ = some (.map (some b)) := by simp [World.cell?, hm]
  have cL := hide (mayRefer_any b p r L w h hE hr)
  generalize (!decide (r = p) && (findK L r.data.toList).isNone) = q at cL ⊢
  clear h hE
  go_enter Tryd.func21, Tryd.ntmps21
  go_wp2_with fail
  refine cL.out.mono ?_
  rintro e w1 ⟨rfl, hb1⟩
  go_wp2
  go_ret
  exact ⟨by simp, hb1⟩
set_option maxRecDepth 20000 in
set_option maxHeartbeats 1000000 in
/-- The first place at which a function says yes. -/
theorem IndexFunc_two (v : Value) (l : List ByteArray) (p1 p2 : Value) (k : FuncId) (f : ByteArray → Bool) (w : World) (h : SliceS w v l) (hl : l.length ≤ 1000000000)
    (hent : ∀ args w, (callFunc k args).run Tryd.prog w = .ok (.enter k args) w)
    (hf : ∀ x ∈ l, ∀ w1, Below w.heap.size w w1 → Calls Tryd.prog k #[.string x, p1, p2] w1 fun e w' => e = .returned (.bool (f x)) ∧ Below w1.heap.size w1 w') :
    Calls Tryd.prog 25 #[v, .func (.func k) #[] #[p1, p2]] w fun e w' => (∃ z : Int, e = .returned (.int .i64 z) ∧ decide ((0 : Int) ≤ z) = l.any f) ∧ Below w.heap.size w w' := by
  obtain ⟨a, cap, rfl, _, hx⟩ := h
  by_cases h0 : l.length = 0
  · have e0 : l = [] := List.eq_nil_of_length_eq_zero h0
    subst e0
    simp only [List.length_nil]
    go_enter Tryd.func25, Tryd.ntmps25
    go_wp2
    refine wp_loop_rounds 1 ?_
    rw [rounds_succ]
    go_wp2
    go_ret
    exact ⟨⟨-1, rfl, rfl⟩, Below.refl _ _⟩
  · obtain ⟨b, off, rfl, hbl, hX⟩ := hx (by omega)
    have HX := hide hX
    have HF := hide hf
    obtain ⟨T, hT⟩ : ∃ T, l.any f = T := ⟨_, rfl⟩
    rw [hT]
    have HT := hide hT
    clear hX hx hf hT
    go_enter Tryd.func25, Tryd.ntmps25
    go_wp2
    go_loopw [5, 8] (fun _ i w1 => ∃ j : Nat, j ≤ l.length ∧ i = .int .i64 j ∧ Hid (Below w.heap.size w w1) ∧ Hid (∀ k (hk : k < l.length), k < j → f l[k] = false)) (fun _ i _ => l.length - (intOf i).toNat)
    case atStart => exact ⟨0, by omega, rfl, hide (Below.refl _ _), hide (fun k _ hk => by omega)⟩
    case round =>
      obtain ⟨j, hj, rfl, HB, hall⟩ := hrel
      by_cases hlt : j < l.length
      · have c0 := (HB.out.cell (p := ⟨b, off + j, none⟩) hbl).trans (HX.out j hlt)
        have hltz : (j : Int) < l.length := by omega
        have cF := hide (HF.out l[j] (List.getElem_mem _) wr HB.out)
        cases hfj : f l[j] with
        | true =>
          rw [hfj] at cF
          have hany : l.any f = true := List.any_eq_true.2 ⟨l[j], List.getElem_mem _, hfj⟩
          obtain rfl : T = true := by rw [← HT.out]; exact hany
          generalize l[j] = x at c0 cF
          clear hall hfj hany
          go_wp2_with fail
          refine cF.out.mono ?_
          rintro e w2 ⟨rfl, hb2⟩
          go_wp2
          go_ret
          exact ⟨⟨_, rfl, decide_eq_true (by omega)⟩, HB.out.trans (hb2.mono HB.out.size)⟩
        | false =>
          rw [hfj] at cF
          have hall' : Hid (∀ k (hk : k < l.length), k < j + 1 → f l[k] = false) := fun k hk hkj => by
            by_cases e' : k = j
            · subst e'; exact hfj
            · exact hall.out k hk (by omega)
          generalize l[j] = x at c0 cF
          clear hall hfj
          go_wp2_with fail
          refine cF.out.mono ?_
          rintro e w2 ⟨rfl, hb2⟩
          go_wp2
          go_roundw
          case rel => exact ⟨j + 1, by omega, by go_num, hide (HB.out.trans (hb2.mono HB.out.size)), hall'⟩
          case measure => simp [intOf]; omega
      · have hany : l.any f = false := by
          rw [List.any_eq_false]
          intro y hy
          obtain ⟨k, hk, rfl⟩ := List.getElem_of_mem hy
          rw [hall.out k hk (by omega)]; simp
        obtain rfl : T = false := by rw [← HT.out]; exact hany
        clear hall hany
        go_wp2
        go_ret
        exact ⟨⟨-1, rfl, rfl⟩, HB.out⟩
set_option maxRecDepth 20000 in
set_option maxHeartbeats 400000 in
theorem ContainsFunc_two (v : Value) (l : List ByteArray) (p1 p2 : Value) (k : FuncId) (f : ByteArray → Bool) (w : World) (h : SliceS w v l) (hl : l.length ≤ 1000000000)
    (hent : ∀ args w, (callFunc k args).run Tryd.prog w = .ok (.enter k args) w)
    (hf : ∀ x ∈ l, ∀ w1, Below w.heap.size w w1 → Calls Tryd.prog k #[.string x, p1, p2] w1 fun e w' => e = .returned (.bool (f x)) ∧ Below w1.heap.size w1 w') :
    Calls Tryd.prog 14 #[v, .func (.func k) #[] #[p1, p2]] w fun e w' => e = .returned (.bool (l.any f)) ∧ Below w.heap.size w w' := by
  have cI := hide (IndexFunc_two v l p1 p2 k f w h hl hent hf)
  clear hf h
  go_enter Tryd.func14, Tryd.ntmps14
  go_wp2_with fail
  refine cI.out.mono ?_
  rintro e w1 ⟨⟨z, rfl, hz⟩, hb⟩
  go_wp2
  go_ret
  exact ⟨rfl, hb⟩

set_option maxRecDepth 20000 in
set_option maxHeartbeats 1000000 in
/-- The first place at which a function says yes. -/
theorem IndexFunc_one (v : Value) (l : List ByteArray) (p1 : Value) (k : FuncId) (f : ByteArray → Bool) (w : World) (h : SliceS w v l) (hl : l.length ≤ 1000000000)
    (hent : ∀ args w, (callFunc k args).run Tryd.prog w = .ok (.enter k args) w)
    (hf : ∀ x ∈ l, ∀ w1, Below w.heap.size w w1 → Calls Tryd.prog k #[p1, .string x] w1 fun e w' => e = .returned (.bool (f x)) ∧ Below w1.heap.size w1 w') :
    Calls Tryd.prog 25 #[v, .func (.func k) #[p1] #[]] w fun e w' => (∃ z : Int, e = .returned (.int .i64 z) ∧ decide ((0 : Int) ≤ z) = l.any f) ∧ Below w.heap.size w w' := by
  obtain ⟨a, cap, rfl, _, hx⟩ := h
  by_cases h0 : l.length = 0
  · have e0 : l = [] := List.eq_nil_of_length_eq_zero h0
    subst e0
    simp only [List.length_nil]
    go_enter Tryd.func25, Tryd.ntmps25
    go_wp2
    refine wp_loop_rounds 1 ?_
    rw [rounds_succ]
    go_wp2
    go_ret
    exact ⟨⟨-1, rfl, rfl⟩, Below.refl _ _⟩
  · obtain ⟨b, off, rfl, hbl, hX⟩ := hx (by omega)
    have HX := hide hX
    have HF := hide hf
    obtain ⟨T, hT⟩ : ∃ T, l.any f = T := ⟨_, rfl⟩
    rw [hT]
    have HT := hide hT
    clear hX hx hf hT
    go_enter Tryd.func25, Tryd.ntmps25
    go_wp2
    go_loopw [5, 8] (fun _ i w1 => ∃ j : Nat, j ≤ l.length ∧ i = .int .i64 j ∧ Hid (Below w.heap.size w w1) ∧ Hid (∀ k (hk : k < l.length), k < j → f l[k] = false)) (fun _ i _ => l.length - (intOf i).toNat)
    case atStart => exact ⟨0, by omega, rfl, hide (Below.refl _ _), hide (fun k _ hk => by omega)⟩
    case round =>
      obtain ⟨j, hj, rfl, HB, hall⟩ := hrel
      by_cases hlt : j < l.length
      · have c0 := (HB.out.cell (p := ⟨b, off + j, none⟩) hbl).trans (HX.out j hlt)
        have hltz : (j : Int) < l.length := by omega
        have cF := hide (HF.out l[j] (List.getElem_mem _) wr HB.out)
        cases hfj : f l[j] with
        | true =>
          rw [hfj] at cF
          have hany : l.any f = true := List.any_eq_true.2 ⟨l[j], List.getElem_mem _, hfj⟩
          obtain rfl : T = true := by rw [← HT.out]; exact hany
          generalize l[j] = x at c0 cF
          clear hall hfj hany
          go_wp2_with fail
          refine cF.out.mono ?_
          rintro e w2 ⟨rfl, hb2⟩
          go_wp2
          go_ret
          exact ⟨⟨_, rfl, decide_eq_true (by omega)⟩, HB.out.trans (hb2.mono HB.out.size)⟩
        | false =>
          rw [hfj] at cF
          have hall' : Hid (∀ k (hk : k < l.length), k < j + 1 → f l[k] = false) := fun k hk hkj => by
            by_cases e' : k = j
            · subst e'; exact hfj
            · exact hall.out k hk (by omega)
          generalize l[j] = x at c0 cF
          clear hall hfj
          go_wp2_with fail
          refine cF.out.mono ?_
          rintro e w2 ⟨rfl, hb2⟩
          go_wp2
          go_roundw
          case rel => exact ⟨j + 1, by omega, by go_num, hide (HB.out.trans (hb2.mono HB.out.size)), hall'⟩
          case measure => simp [intOf]; omega
      · have hany : l.any f = false := by
          rw [List.any_eq_false]
          intro y hy
          obtain ⟨k, hk, rfl⟩ := List.getElem_of_mem hy
          rw [hall.out k hk (by omega)]; simp
        obtain rfl : T = false := by rw [← HT.out]; exact hany
        clear hall hany
        go_wp2
        go_ret
        exact ⟨⟨-1, rfl, rfl⟩, HB.out⟩
set_option maxRecDepth 20000 in
set_option maxHeartbeats 400000 in
theorem ContainsFunc_one (v : Value) (l : List ByteArray) (p1 : Value) (k : FuncId) (f : ByteArray → Bool) (w : World) (h : SliceS w v l) (hl : l.length ≤ 1000000000)
    (hent : ∀ args w, (callFunc k args).run Tryd.prog w = .ok (.enter k args) w)
    (hf : ∀ x ∈ l, ∀ w1, Below w.heap.size w w1 → Calls Tryd.prog k #[p1, .string x] w1 fun e w' => e = .returned (.bool (f x)) ∧ Below w1.heap.size w1 w') :
    Calls Tryd.prog 14 #[v, .func (.func k) #[p1] #[]] w fun e w' => e = .returned (.bool (l.any f)) ∧ Below w.heap.size w w' := by
  have cI := hide (IndexFunc_one v l p1 k f w h hl hent hf)
  clear hf h
  go_enter Tryd.func14, Tryd.ntmps14
  go_wp2_with fail
  refine cI.out.mono ?_
  rintro e w1 ⟨⟨z, rfl, hz⟩, hb⟩
  go_wp2
  go_ret
  exact ⟨rfl, hb⟩
end Go.Proofs.YticcbaapbnfmmaaDoor
namespace Go.Proofs.YticcbaapbnfmmaaDoor
open Go.RowKit Go.Maps

theorem map_snocS (l : List ByteArray) (k : Nat) (h : k < l.length) : (l.take (k + 1)).map Value.string = (l.take k).map Value.string ++ [.string l[k]] := by
  rw [List.take_succ_eq_append_getElem h, List.map_append]; rfl

set_option maxRecDepth 20000 in
set_option maxHeartbeats 1000000 in
theorem copied_any (v : Value) (l : List ByteArray) (w : World) (h : SliceS w v l) (hl : l.length ≤ 1000000) (hs : ∀ x ∈ l, x.size ≤ 1000000000) :
    Calls Tryd.prog 24 #[v] w fun e w' => ∃ v', e = .returned v' ∧ w'.ownsRow w.heap.size 9 1 v' l.length (l.map Value.string) ∧ Below w.heap.size w w' := by
  obtain ⟨i9, hi9, h90, h91, h92⟩ := info_parts Tryd.info9
  obtain ⟨a, cap, rfl, _, hx⟩ := h
  by_cases h0 : l.length = 0
  · have e0 : l = [] := List.eq_nil_of_length_eq_zero h0
    subst e0
    simp only [List.length_nil]
    go_enter Tryd.func24, Tryd.ntmps24
    go_wp2
    refine wp_loop_rounds 1 ?_
    rw [rounds_succ]
    go_wp2
    go_ret
    exact ⟨_, rfl, World.ownsRow_nil _ _ _ _, Below.refl _ _⟩
  · obtain ⟨b, off, rfl, hbl, hX⟩ := hx (by omega)
    have HX := hide hX
    have HS := hide hs
    clear hX hx hs
    go_enter Tryd.func24, Tryd.ntmps24
    go_wp2
    go_loopw [3, 5, 8] (fun o _ i w1 => ∃ (j : Nat) (a1 : Option Addr) (cap1 : Nat), j ≤ l.length ∧ i = .int .i64 j ∧ o = .slice a1 j cap1 ∧ Hid (Below w.heap.size w w1) ∧ Hid (w1.ownsRow w.heap.size 9 1 (.slice a1 j cap1) j ((l.take j).map Value.string))) (fun _ _ i _ => l.length - (intOf i).toNat)
    case atStart => exact ⟨0, none, 0, by omega, rfl, rfl, hide (Below.refl _ _), hide (World.ownsRow_nil _ _ _ _)⟩
    case round =>
      obtain ⟨j, a1, cap1, hj, rfl, rfl, HB, HO⟩ := hrel
      by_cases hlt : j < l.length
      · have c0 := (HB.out.cell (p := ⟨b, off + j, none⟩) hbl).trans (HX.out j hlt)
        have hltz : (j : Int) < l.length := by omega
        have cC := hide (Clone_any l[j] wr (HS.out _ (List.getElem_mem _)))
        have HM : Hid ((l.take (j + 1)).map Value.string = (l.take j).map Value.string ++ [.string l[j]]) := map_snocS l j hlt
        generalize l[j] = x at c0 cC HM
        go_wp2_with fail
        refine cC.out.mono ?_
        rintro e w2 ⟨rfl, hb2⟩
        have HB2 := hide (HB.out.trans (hb2.mono HB.out.size))
        have HO2 := hide (own_below HO.out hb2)
        have hsz2 := HB2.out.size
        clear cC hb2 HB HO c0
        go_wp2_with (at_builtin; refine wpList_append_own _ rfl (.tmp 12) (.tmp 15) 23 rfl w.heap.size 9 i9 (.string ⟨#[]⟩) 1 16 Tryd.underlying23 hi9 h90 h91 h92 rfl (by decide) _ _ _ rfl (HO2.out.alloc _) ⟨w2.heap.size, 0, none⟩ 1 1 [.string x] rfl rfl (cell_one_at _ _ _ _ rfl) (fun x hx => by simp at hx; subst hx; rfl) (by unfold maxLen; omega) (by omega) (by simp; omega) ?_; intro v3 w3 hown3 hgrow3 hnil3; have HB3 := hide ((HB2.out.alloc hsz2 _).grown hgrow3 (by simp; omega) (fun k hk => (HO2.out.lt k hk).1)); obtain ⟨g3, cap3, rfl, hcap3⟩ := own_form hown3 (by omega); have HO3 := hide hown3; clear hown3 hgrow3 hnil3)
        go_roundw
        case rel => exact ⟨j + 1, some ⟨g3, 0, none⟩, cap3, by omega, by go_num, rfl, HB3, hide (by rw [HM.out]; exact HO3.out)⟩
        case measure => simp [intOf]; omega
      · obtain rfl : j = l.length := by omega
        have hO := HO.out
        rw [List.take_length] at hO
        have HO' := hide hO
        clear HO hO
        go_wp2
        go_ret
        exact ⟨_, rfl, HO'.out, HB.out⟩

set_option maxRecDepth 20000 in
set_option maxHeartbeats 1000000 in
theorem same_any (t t' : ByteArray) (a a' : Option Addr) (n n' c c' : Nat) (x y : List ByteArray) (w : World) (h : SliceS w (.slice a n c) x) (h' : SliceS w (.slice a' n' c') y) (hl : x.length ≤ 1000000000) (hl' : y.length ≤ 1000000000) :
    Calls Tryd.prog 34 #[.agg #[.string t, .slice a n c], .agg #[.string t', .slice a' n' c']] w fun e w' => e = .returned (.bool (decide (t = t') && eqL x y)) ∧ Below w.heap.size w w' := by
  by_cases e : t = t'
  · subst e
    have hb : (t.toList == t.toList) = true := by simp
    rw [decide_eq_true rfl, Bool.true_and]
    have hb0 := ((Below.refl _ w).alloc (Nat.le_refl _) (.cells #[.string t, .slice a n c] 59)).alloc (by simp) (.cells #[.string t, .slice a' n' c'] 59)
    have cE := hide (slicesEqual_any _ _ x y _ (h.below hb0) (h'.below hb0) hl hl')
    have HB0 := hide hb0
    clear h h' hb0
    go_enter Tryd.func34, Tryd.ntmps34
    go_wp2_with fail
    refine cE.out.mono ?_
    rintro e w1 ⟨rfl, hb1⟩
    go_wp2
    go_ret
    exact ⟨rfl, HB0.out.trans (hb1.mono HB0.out.size)⟩
  · have hb := eqB_false e
    rw [decide_eq_false e, Bool.false_and]
    clear h h'
    go_enter Tryd.func34, Tryd.ntmps34
    go_wp2
    go_ret
    exact ⟨rfl, ((Below.refl _ w).alloc (Nat.le_refl _) _).alloc (by simp) _⟩

set_option maxRecDepth 20000 in
set_option maxHeartbeats 2000000 in
/-- A path that is there. -/
theorem put_there (b : Nat) (L : List (Bs × Value)) (s t t0 : ByteArray) (a a0 : Option Addr) (n c n0 c0 : Nat) (x y : List ByteArray) (w : World) (h : MapAt w b L) (hf : findK L s.data.toList = some (.agg #[.string t0, .slice a0 n0 c0])) (hx : SliceS w (.slice a n c) x) (hy : SliceS w (.slice a0 n0 c0) y) (hl : x.length ≤ 1000000000) (hl' : y.length ≤ 1000000000) (hs : s.size ≤ 1000000000) :
    Calls Tryd.prog 23 #[.map (some b), .string s, .agg #[.string t, .slice a n c]] w fun e w' => e = .returned (.int .i64 (if (decide (t0 = t) && eqL y x) = true then 0 else 12)) ∧ Below w.heap.size w w' := by
  have hkey : keyOf Tryd.prog 9 (.string s) = some (.string s.data.toList) := WideMaps.keyOf_string_mk Tryd.underlying9 (by unfold maxLen; omega)
  have hb0 := ((Below.refl _ w).alloc (Nat.le_refl _) (.cells #[.string t, .slice a n c] 59)).alloc (by simp) (.cells #[.string t0, .slice a0 n0 c0] 59)
  have cS := hide (same_any t0 t a0 a n0 n c0 c y x _ (hy.below hb0) (hx.below hb0) hl' hl)
  have HB0 := hide hb0
  have h1 : MapAt (w.alloc (.cells #[.string t, .slice a n c] 59)) b L := World.ownsMap.alloc h _
  clear hx hy hb0 h
  cases hS : (decide (t0 = t) && eqL y x) with
  | true =>
    rw [hS] at cS
    rw [if_pos rfl]
    go_enter Tryd.func23, Tryd.ntmps23
    go_wp2_with (first
      | (at_lookup; refine wpList_lookup_own_ok _ rfl _ _ 39 rfl 9 59 keyed9 Tryd.underlying39 rawR (zero103 _) (.held noE) [] rfl b _ _ rfl h1 _ _ rfl hkey ?_; intro v ps hv; rw [atKey_mapD, hf] at hv; rw [has_mapD, hf]; obtain rfl : v = .agg #[.string t0, .slice a0 n0 c0] := rawR_inv hv; clear hv; simp only [Option.isSome])
      | fail)
    refine cS.out.mono ?_
    rintro e w2 ⟨rfl, hb2⟩
    go_wp2
    go_ret
    exact ⟨rfl, HB0.out.trans (hb2.mono HB0.out.size)⟩
  | false =>
    rw [hS] at cS
    rw [if_neg (by simp)]
    go_enter Tryd.func23, Tryd.ntmps23
    go_wp2_with (first
      | (at_lookup; refine wpList_lookup_own_ok _ rfl _ _ 39 rfl 9 59 keyed9 Tryd.underlying39 rawR (zero103 _) (.held noE) [] rfl b _ _ rfl h1 _ _ rfl hkey ?_; intro v ps hv; rw [atKey_mapD, hf] at hv; rw [has_mapD, hf]; obtain rfl : v = .agg #[.string t0, .slice a0 n0 c0] := rawR_inv hv; clear hv; simp only [Option.isSome])
      | fail)
    refine cS.out.mono ?_
    rintro e w2 ⟨rfl, hb2⟩
    go_wp2
    go_ret
    exact ⟨rfl, HB0.out.trans (hb2.mono HB0.out.size)⟩

theorem not_nilMap (b : Nat) (w : World) : (binOp BinOp.eql 39 (.map (some b)) (.map none)).run Tryd.prog w = .ok (.bool false) w := by kernel_rfl
set_option maxRecDepth 20000 in
set_option maxHeartbeats 2000000 in
/-- A path that is not there, and no room. -/
theorem put_full (b : Nat) (L : List (Bs × Value)) (s t : ByteArray) (a : Option Addr) (n c : Nat) (w : World) (h : MapAt w b L) (hf : findK L s.data.toList = none) (hfull : 10 ≤ L.length) (hs : s.size ≤ 1000000000) :
    Calls Tryd.prog 23 #[.map (some b), .string s, .agg #[.string t, .slice a n c]] w fun e w' => e = .returned (.int .i64 14) ∧ Below w.heap.size w w' := by
  have hkey : keyOf Tryd.prog 9 (.string s) = some (.string s.data.toList) := WideMaps.keyOf_string_mk Tryd.underlying9 (by unfold maxLen; omega)
  have h1 : MapAt (w.alloc (.cells #[.string t, .slice a n c] 59)) b L := World.ownsMap.alloc h _
  have h2 : MapAt ((w.alloc (.cells #[.string t, .slice a n c] 59)).alloc (.cells #[.string ⟨#[]⟩, .slice none 0 0] 59)) b L := World.ownsMap.alloc h1 _
  have hlen : ∀ ty, (Builtin.len_ #[39] ty #[.map (some b)]).run Tryd.prog ((w.alloc (.cells #[.string t, .slice a n c] 59)).alloc (.cells #[.string ⟨#[]⟩, .slice none 0 0] 59)) = .ok (.int .i64 (Maps.size (mapD L))) ((w.alloc (.cells #[.string t, .slice a n c] 59)).alloc (.cells #[.string ⟨#[]⟩, .slice none 0 0] 59)) := fun ty => World.ownsMap.len h2 Tryd.underlying39 ty
  rw [size_mapD] at hlen
  have hz : (10 : Int) ≤ L.length := by omega
  have hnil := not_nilMap b
  clear h
  go_enter Tryd.func23, Tryd.ntmps23
  go_wp2_with (first
    | (at_lookup; refine wpList_lookup_own_ok _ rfl _ _ 39 rfl 9 59 keyed9 Tryd.underlying39 rawR (zero103 _) (.held noE) [] rfl b _ _ rfl h1 _ _ rfl hkey ?_; intro v ps hv; rw [atKey_mapD, hf] at hv; rw [has_mapD, hf]; obtain rfl : v = .agg #[.string ⟨#[]⟩, .slice none 0 0] := rawR_inv hv; clear hv; simp only [Option.isSome])
    | fail)
  go_ret
  exact ⟨rfl, ((Below.refl _ w).alloc (Nat.le_refl _) _).alloc (by simp) _⟩

/-- All blocks but one lie as they lay. -/
structure KBz (b : Nat) (w w' : World) : Prop where
  size : w.heap.size ≤ w'.heap.size
  blk : ∀ k, k < w.heap.size → k ≠ b → w'.heap[k]? = w.heap[k]?
theorem KBz.new {w w' : World} (b : Nat) (h : Below w.heap.size w w') : KBz b w w' := ⟨h.size, fun k hk _ => h.block k hk⟩
theorem KBz.trans {b : Nat} {w w1 w2 : World} (h : KBz b w w1) (k : KBz b w1 w2) : KBz b w w2 := ⟨Nat.le_trans h.size k.size, fun i hi hb => (k.blk i (Nat.lt_of_lt_of_le hi h.size) hb).trans (h.blk i hi hb)⟩
theorem MapAt.blk {w w' : World} {b : Nat} {L : List (Bs × Value)} (h : MapAt w b L) (e : w'.heap[b]? = w.heap[b]?) : MapAt w' b L := by
  obtain ⟨es, clock, hb, F, hs, hD⟩ := h
  exact ⟨es, clock, e.trans hb, F, hs, hD⟩
theorem insK_length (x : Bs × Value) : ∀ L, (insK x L).length = L.length + 1
  | [] => rfl
  | y :: r => by
    have e2 : insK x (y :: r) = if bytesBefore x.1 y.1 = true then x :: y :: r else y :: insK x r := rfl
    rw [e2]
    split
    · rfl
    · rw [List.length_cons, insK_length x r]; rfl
set_option maxRecDepth 20000 in
set_option maxHeartbeats 2000000 in
/-- A path that is not there, and room. -/
theorem put_new (b : Nat) (L : List (Bs × Value)) (s t : ByteArray) (a : Option Addr) (n c : Nat) (w : World) (h : MapAt w b L) (hf : findK L s.data.toList = none) (hroom : L.length < 10) (hs : s.size ≤ 1000000000) :
    Calls Tryd.prog 23 #[.map (some b), .string s, .agg #[.string t, .slice a n c]] w fun e w' => e = .returned (.int .i64 0) ∧ MapAt w' b (insK (s.data.toList, .agg #[.string t, .slice a n c]) L) ∧ KBz b w w' ∧ (∀ B, B ≤ b → Below B w w') := by
  have hkey : keyOf Tryd.prog 9 (.string s) = some (.string s.data.toList) := WideMaps.keyOf_string_mk Tryd.underlying9 (by unfold maxLen; omega)
  have hblt := World.ownsMap.lt h
  have h1 : MapAt (w.alloc (.cells #[.string t, .slice a n c] 59)) b L := World.ownsMap.alloc h _
  have h2 : MapAt ((w.alloc (.cells #[.string t, .slice a n c] 59)).alloc (.cells #[.string ⟨#[]⟩, .slice none 0 0] 59)) b L := World.ownsMap.alloc h1 _
  have hlen : ∀ ty, (Builtin.len_ #[39] ty #[.map (some b)]).run Tryd.prog ((w.alloc (.cells #[.string t, .slice a n c] 59)).alloc (.cells #[.string ⟨#[]⟩, .slice none 0 0] 59)) = .ok (.int .i64 (Maps.size (mapD L))) ((w.alloc (.cells #[.string t, .slice a n c] 59)).alloc (.cells #[.string ⟨#[]⟩, .slice none 0 0] 59)) := fun ty => World.ownsMap.len h2 Tryd.underlying39 ty
  rw [size_mapD] at hlen
  have hz : ¬ (10 : Int) ≤ L.length := by omega
  have hnil := not_nilMap b
  have hg0 := ((Below.refl _ w).alloc (Nat.le_refl _) (.cells #[.string t, .slice a n c] 59)).alloc (by simp) (.cells #[.string ⟨#[]⟩, .slice none 0 0] 59)
  have HG0 := hide hg0
  have H2 := hide h2
  have hb0 : ((w.alloc (.cells #[.string t, .slice a n c] 59)).alloc (.cells #[.string ⟨#[]⟩, .slice none 0 0] 59)).heap[w.heap.size]? = some (.cells #[.string t, .slice a n c] 59 (0, 0)) := block_keep _ (block_new w _)
  have HB0 := hide hb0
  clear h hg0 hb0 h2
  go_enter Tryd.func23, Tryd.ntmps23
  go_wp2_with (first
    | (at_lookup; refine wpList_lookup_own_ok _ rfl _ _ 39 rfl 9 59 keyed9 Tryd.underlying39 rawR (zero103 _) (.held noE) [] rfl b _ _ rfl h1 _ _ rfl hkey ?_; intro v ps hv; rw [atKey_mapD, hf] at hv; rw [has_mapD, hf]; obtain rfl : v = .agg #[.string ⟨#[]⟩, .slice none 0 0] := rawR_inv hv; clear hv; simp only [Option.isSome])
    | fail)
  generalize (w.alloc (.cells #[.string t, .slice a n c] 59)).alloc (.cells #[.string ⟨#[]⟩, .slice none 0 0] 59) = W0 at *
  clear hlen h1
  have cb0 : W0.cell? ⟨w.heap.size, 0, none⟩ = some (.string t) := by simp [World.cell?, HB0.out]
  have cb1 : W0.cell? ⟨w.heap.size, 1, none⟩ = some (.slice a n c) := by simp [World.cell?, HB0.out]
  go_region_with (go_at_call 30; refine (Clone_any s _ hs).mono ?_; rintro e w4 ⟨rfl, hb4⟩; have hk4 := (hb4.block w.heap.size (lt_of_block HB0.out)).trans HB0.out; have cc0 : w4.cell? ⟨w.heap.size, 0, none⟩ = some (.string t) := (by simp [World.cell?, hk4]); have cc1 : w4.cell? ⟨w.heap.size, 1, none⟩ = some (.slice a n c) := (by simp [World.cell?, hk4]); have h4 : MapAt w4 b L := H2.out.blk (hb4.block b (World.ownsMap.lt H2.out)); obtain ⟨w5, hrun5, hown5, hgrow5⟩ := World.ownsMap.update (val := .agg #[.string t, .slice a n c]) h4 keyed9 Tryd.underlying39 (by unfold maxLen; omega) hkey rfl; have HO5 := hide hown5; have HG5 := hide hgrow5; have HB4 := hide hb4; clear hown5 hgrow5 h4 hb4 hk4)
  all_goals
    go_wp2
    go_ret
    have hB5 : Below w.heap.size w w4 := (HG0.out.drew).trans (HB4.out.mono HG0.out.size)
    have hg5 := HG5.out
    refine ⟨rfl, ?_, (KBz.new b hB5).trans ⟨hg5.size, fun k hk hne => hg5.block k hk (fun e => hne (by injection e))⟩, fun B hB => (hB5.mono (by omega)).grown hg5 (by have := hB5.size; omega) (fun k hk => by injection hk with hk; omega)⟩
    have := HO5.out
    rw [put_mapD L s.data.toList _ hf] at this
    unfold MapAt
    rw [insK_length]
    exact this
end Go.Proofs.YticcbaapbnfmmaaDoor
namespace Go.Proofs.YticcbaapbnfmmaaDoor
open Go.RowKit Go.Maps

/-- An entry of a store. -/
structure Ent where
  path : ByteArray
  nodes : List Nd
  refs : List ByteArray
def packB (ns : List Nd) : ByteArray := ⟨(packBytes ns).toArray⟩
def findS (S : List Ent) (p : ByteArray) : Option Ent := S.find? fun e => e.path.data.toList == p.data.toList
def insS (x : Ent) : List Ent → List Ent
  | [] => [x]
  | y :: r => if bytesBefore x.path.data.toList y.path.data.toList then x :: y :: r else y :: insS x r
def putS (S : List Ent) (x : Ent) : Int × List Ent := match findS S x.path with
  | some e => (if (decide (packB e.nodes = packB x.nodes) && eqL e.refs x.refs) = true then 0 else 12, S)
  | none => if 10 ≤ S.length then (14, S) else (0, insS x S)
/-- An entry as it lies in the program's map. -/
def EntAt (w : World) (x : Bs × Value) (e : Ent) : Prop := x.1 = e.path.data.toList ∧ ∃ a n c, x.2 = .agg #[.string (packB e.nodes), .slice a n c] ∧ SliceS w (.slice a n c) e.refs
def EntsAt (w : World) : List (Bs × Value) → List Ent → Prop
  | [], [] => True
  | x :: L, e :: S => EntAt w x e ∧ EntsAt w L S
  | _, _ => False
theorem EntsAt.ents {w : World} : ∀ {L : List (Bs × Value)} {S : List Ent}, EntsAt w L S → Ents L
  | [], [], _ => fun _ h => by cases h
  | x :: L, e :: S, h => fun y hy => by
    rcases List.mem_cons.1 hy with rfl | hy
    · obtain ⟨_, a, n, c, hv, _⟩ := h.1
      exact ⟨_, a, n, c, hv⟩
    · exact h.2.ents y hy
  | [], _ :: _, h => h.elim
  | _ :: _, [], h => h.elim
theorem EntsAt.length {w : World} : ∀ {L : List (Bs × Value)} {S : List Ent}, EntsAt w L S → L.length = S.length
  | [], [], _ => rfl
  | _ :: _, _ :: _, h => by rw [List.length_cons, List.length_cons, h.2.length]
  | [], _ :: _, h => h.elim
  | _ :: _, [], h => h.elim
theorem EntsAt.find {w : World} : ∀ {L : List (Bs × Value)} {S : List Ent}, EntsAt w L S → ∀ p : ByteArray, match findS S p with
    | some e => ∃ a n c, findK L p.data.toList = some (.agg #[.string (packB e.nodes), .slice a n c]) ∧ SliceS w (.slice a n c) e.refs
    | none => findK L p.data.toList = none
  | [], [], _, _ => rfl
  | x :: L, e :: S, h, p => by
    obtain ⟨hk, a, n, c, hv, hs⟩ := h.1
    have ih := h.2.find p
    unfold findS findK at *
    simp only [List.find?_cons, hk]
    cases hb : e.path.data.toList == p.data.toList with
    | true => exact ⟨a, n, c, by simp [hv], hs⟩
    | false => exact ih
  | [], _ :: _, h, _ => h.elim
  | _ :: _, [], h, _ => h.elim
theorem EntsAt.mono {w w' : World} (hw : ∀ v ss, SliceS w v ss → SliceS w' v ss) : ∀ {L : List (Bs × Value)} {S : List Ent}, EntsAt w L S → EntsAt w' L S
  | [], [], _ => trivial
  | _ :: _, _ :: _, h => ⟨⟨h.1.1, by obtain ⟨_, a, n, c, hv, hs⟩ := h.1; exact ⟨a, n, c, hv, hw _ _ hs⟩⟩, h.2.mono hw⟩
  | [], _ :: _, h => h.elim
  | _ :: _, [], h => h.elim
theorem EntsAt.ins {w : World} {x : Bs × Value} {e : Ent} (hx : EntAt w x e) : ∀ {L : List (Bs × Value)} {S : List Ent}, EntsAt w L S → EntsAt w (insK x L) (insS e S)
  | [], [], _ => ⟨hx, trivial⟩
  | y :: L, f :: S, h => by
    have e1 : insK x (y :: L) = if bytesBefore x.1 y.1 = true then x :: y :: L else y :: insK x L := rfl
    have e2 : insS e (f :: S) = if bytesBefore e.path.data.toList f.path.data.toList = true then e :: f :: S else f :: insS e S := rfl
    rw [e1, e2, hx.1, h.1.1]
    by_cases hb : bytesBefore e.path.data.toList f.path.data.toList = true
    · rw [if_pos hb, if_pos hb]; exact ⟨hx, h⟩
    · rw [if_neg hb, if_neg hb]; exact ⟨h.1, EntsAt.ins hx h.2⟩
  | [], _ :: _, h => h.elim
  | _ :: _, [], h => h.elim
/-- Lists of texts lie on, where all lies on but a map. -/
theorem SliceS.kb {w w' : World} {b : Nat} {v : Value} {ss : List ByteArray} {L : List (Bs × Value)} (h : SliceS w v ss) (hm : MapAt w b L) (hk : KBz b w w') : SliceS w' v ss := by
  obtain ⟨a, cap, rfl, h1, h3⟩ := h
  refine ⟨a, cap, rfl, h1, fun hn => ?_⟩
  obtain ⟨g, off, rfl, h4, h5⟩ := h3 hn
  obtain ⟨es, clock, hb, _⟩ := hm
  have hne : g ≠ b := fun e => by
    have := h5 0 hn
    rw [e] at this
    simp [World.cell?, hb] at this
  refine ⟨g, off, rfl, Nat.lt_of_lt_of_le h4 hk.size, fun j hj => ?_⟩
  rw [← h5 j hj]
  exact World.cell?_of_block (w := w) (hk.blk g h4 hne)
/-- A store of the program's: its map. -/
def PSt (w : World) (b : Nat) (S : List Ent) : Prop := ∃ L, MapAt w b L ∧ EntsAt w L S
theorem PSt.below {w w' : World} {b : Nat} {S : List Ent} (h : PSt w b S) (hb : Below w.heap.size w w') : PSt w' b S := by
  obtain ⟨L, h1, h2⟩ := h
  exact ⟨L, h1.blk (hb.block b (World.ownsMap.lt h1)), h2.mono (fun v ss hs => hs.below hb)⟩
theorem PSt.lt {w : World} {b : Nat} {S : List Ent} (h : PSt w b S) : b < w.heap.size := by
  obtain ⟨L, h1, _⟩ := h
  exact World.ownsMap.lt h1
/-- What a call leaves that may write into one map alone. -/
def Wrote (b : Nat) (w w' : World) : Prop := KBz b w w' ∧ ∀ B, B ≤ b → Below B w w'
theorem Wrote.of {b : Nat} {w w' : World} (hb : b < w.heap.size) (h : Below w.heap.size w w') : Wrote b w w' := ⟨KBz.new b h, fun B hB => h.mono (by omega)⟩
theorem Wrote.trans {b : Nat} {w w1 w2 : World} (h : Wrote b w w1) (k : Wrote b w1 w2) : Wrote b w w2 := ⟨h.1.trans k.1, fun B hB => (h.2 B hB).trans (k.2 B hB)⟩
end Go.Proofs.YticcbaapbnfmmaaDoor
