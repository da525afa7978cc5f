/-
  WALKS of the document's reader, 7: all of the bytes.
-/
import Derived.Test.YticfcjmlphhpgaaDoorN6
import Derived.Test.YticfcjmlphhpgaaDoorC21
import Derived.Test.YticfcjmlphhpgaaDoorW15
import Derived.Test.YticfcjmlphhpgaaDoorC23
namespace Go.Proofs.YticfcjmlphhpgaaDoor
open Go.RowKit

theorem rdir_any {s : ByteArray} (hs : s.size ≤ 50000000) : ∀ f g, g ≤ f → DirC s g
  | 0, g, h => by
    obtain rfl : g = 0 := by omega
    exact rdir_of hs 0 (fun k hk => absurd hk (Nat.not_lt_zero _))
  | f + 1, g, h => rdir_of hs g (fun k hk => rdir_any hs f k (by omega))

set_option maxRecDepth 20000 in
set_option maxHeartbeats 400000 in
theorem rtree_any {B R : Nat} {w : World} {s : ByteArray} (h : QR B R w s (.slice none 0 0) ⟨0, 0, 0, []⟩) (hs : s.size ≤ 50000000) :
    Calls Tryd.prog 27 #[.pointer (some ⟨R, 0, none⟩)] w fun e w' => (∃ r, e = .returned r) ∧ QQ B R w s (treeN s.data.toList) w' := by
  have c4 : w.cell? ⟨R, 4, none⟩ = some (.slice none 0 0) := by simp [World.cell?, h.blk]
  have f4 : w.frozen? ⟨R, 4, none⟩ = false := by simp [World.frozen?, h.blk]
  have h1 : QP B R w s (.slice none 0 0) ⟨0, 0, 0, []⟩ (w.setCell ⟨R, 4, none⟩ (.slice none 0 0)) :=
    ⟨⟨block_set h.blk 4 _, h.BR, World.ownsRow_nil _ _ _ _, h.le, h.ll⟩, (Below.refl B w).setCell h.BR _, (KT.refl [56] w).set h.blk (by decide) _ _⟩
  have H1 := hide h1
  have cM := hide (rmust_any h1.1 wNar hs)
  have hsl : s.data.toList.length = s.size := by simp
  unfold treeN
  rw [hsl]
  generalize mustN s.data.toList wNar ⟨0, 0, 0, []⟩ = st1 at *
  clear h h1 hsl
  go_enter Tryd.func27, Tryd.ntmps27
  go_wp2_with fail
  refine cM.out.mono ?_
  rintro e w1 ⟨⟨r1, rfl⟩, hq1⟩
  have cN := hide (rnode_of hs (rdir_any hs _ _ (Nat.le_refl (s.size + 1))) hq1.1 ⟨#[]⟩ 0 (by omega) (fun _ => ⟨by omega, Nat.zero_le _, Nat.zero_le _⟩))
  have Q1 := hide (H1.out.trans hq1)
  clear cM hq1 H1
  go_wp2_with fail
  refine cN.out.mono ?_
  rintro e w2 ⟨⟨r2, rfl⟩, hq2⟩
  go_wp2
  go_end0
  exact ⟨⟨_, rfl⟩, Q1.out.q hq2⟩

set_option maxRecDepth 20000 in
set_option maxHeartbeats 1000000 in
theorem rRead_any (s : ByteArray) (w : World) (hs : s.size ≤ 50000000) :
    Calls Tryd.prog 15 #[.string s] w fun e w' => (∃ v, e = .returned (.tuple #[v, .int .i64 (readF s.data.toList).2.1, .int .i64 ((readF s.data.toList).2.2 : Nat)]) ∧ SliceN w' v (readF s.data.toList).1) ∧ Below w.heap.size w w' ∧ (readF s.data.toList).1.length ≤ s.size := by
  have h0 : QR w.heap.size w.heap.size (w.alloc (.cells #[.string s, .int .i64 0, .int .i64 0, .int .i64 0, .slice none 0 0] 56)) s (.slice none 0 0) ⟨0, 0, 0, []⟩ :=
    ⟨block_new w _, Nat.le_refl _, World.ownsRow_nil _ _ _ _, Nat.zero_le _, Nat.le_refl _⟩
  have hb0 := hide ((Below.refl _ w).alloc (Nat.le_refl _) (.cells #[.string s, .int .i64 0, .int .i64 0, .int .i64 0, .slice none 0 0] 56))
  have cT := hide (rtree_any h0 hs)
  rw [← readN_eq]
  unfold readN
  have hsl : s.data.toList.length = s.size := by simp
  rw [hsl]
  generalize treeN s.data.toList = st1 at *
  clear h0 hsl
  by_cases hlt : st1.pos < s.size
  · have hltz : (st1.pos : Int) < s.size := by omega
    have eF : st1.failIf (decide (st1.pos < s.size)) 10 st1.pos = st1.fail 10 st1.pos := by rw [decide_eq_true hlt]; rfl
    rw [eF]
    have hne : (st1.fail 10 st1.pos).e ≠ 0 := fail_live (by decide)
    generalize eG : st1.fail 10 st1.pos = st2 at *
    have E2 := hide eG
    have hneb : (st2.e == 0) = false := beq_eq_false_iff_ne.2 hne
    simp only [if_neg hne]
    clear eF hlt eG hne
    go_enter Tryd.func15, Tryd.ntmps15
    go_wp2_with fail
    refine cT.out.mono ?_
    rintro e w1 ⟨⟨r1, rfl⟩, ⟨v1, hq1⟩, hb1, hk1⟩
    have c1 : w1.cell? ⟨w.heap.size, 1, none⟩ = some (.int .i64 st1.pos) := by simp [World.cell?, hq1.blk]
    have cF := hide (rfail_any hq1 10 st1.pos)
    rw [E2.out] at cF
    have hb1' := hide (hb0.out.trans hb1)
    clear cT hq1 hb1 hk1 hb0
    go_wp2_with fail
    refine cF.out.mono ?_
    rintro e w2 ⟨⟨r2, rfl⟩, hq2⟩
    have c2 : w2.cell? ⟨w.heap.size, 2, none⟩ = some (.int .i64 st2.e) := by simp [World.cell?, hq2.1.blk]
    have c3 : w2.cell? ⟨w.heap.size, 3, none⟩ = some (.int .i64 st2.bad) := by simp [World.cell?, hq2.1.blk]
    have hb2 := hide (hb1'.out.trans hq2.2.1)
    clear cF hq2 c1 hb1'
    go_wp2
    go_quiet (fail)
    go_wp2
    go_ret3
    exact ⟨⟨_, rfl, ⟨none, 0, rfl, by simp, by simp [maxLen], fun _ => rfl, fun h => by simp at h⟩⟩, below_drewN hb2.out _, by simp⟩
  · have hltz : ¬ (st1.pos : Int) < s.size := by omega
    have eF : st1.failIf (decide (st1.pos < s.size)) 10 st1.pos = st1 := by rw [decide_eq_false hlt]; rfl
    rw [eF]
    by_cases he : st1.e = 0
    · simp only [if_pos he]
      clear eF hlt
      go_enter Tryd.func15, Tryd.ntmps15
      go_wp2_with fail
      refine cT.out.mono ?_
      rintro e w1 ⟨⟨r1, rfl⟩, ⟨v1, hq1⟩, hb1, hk1⟩
      have c1 : w1.cell? ⟨w.heap.size, 1, none⟩ = some (.int .i64 st1.pos) := by simp [World.cell?, hq1.blk]
      have c2 : w1.cell? ⟨w.heap.size, 2, none⟩ = some (.int .i64 st1.e) := by simp [World.cell?, hq1.blk]
      have c4 : w1.cell? ⟨w.heap.size, 4, none⟩ = some v1 := by simp [World.cell?, hq1.blk]
      rw [he] at c2
      have hsl := (own_nodes hq1.nd).1
      obtain ⟨a, cap, hv1, hcap⟩ := own_slice hq1.nd
      subst hv1
      have HSL := hide hsl
      have hle1 : st1.l.length ≤ s.size := Nat.le_trans hq1.ll hq1.le
      have hb1' := hide (hb0.out.trans hb1)
      clear cT hq1 hb1 hk1 hb0 hsl
      go_wp2
      go_ret3
      exact ⟨⟨_, rfl, HSL.out⟩, hb1'.out, hle1⟩
    · have hneb : (st1.e == 0) = false := beq_eq_false_iff_ne.2 he
      simp only [if_neg he]
      clear eF hlt
      go_enter Tryd.func15, Tryd.ntmps15
      go_wp2_with fail
      refine cT.out.mono ?_
      rintro e w1 ⟨⟨r1, rfl⟩, ⟨v1, hq1⟩, hb1, hk1⟩
      have c1 : w1.cell? ⟨w.heap.size, 1, none⟩ = some (.int .i64 st1.pos) := by simp [World.cell?, hq1.blk]
      have c2 : w1.cell? ⟨w.heap.size, 2, none⟩ = some (.int .i64 st1.e) := by simp [World.cell?, hq1.blk]
      have c3 : w1.cell? ⟨w.heap.size, 3, none⟩ = some (.int .i64 st1.bad) := by simp [World.cell?, hq1.blk]
      have hb1' := hide (hb0.out.trans hb1)
      clear cT hq1 hb1 hk1 hb0
      go_wp2
      go_quiet (fail)
      go_wp2
      go_ret3
      exact ⟨⟨_, rfl, ⟨none, 0, rfl, by simp, by simp [maxLen], fun _ => rfl, fun h => by simp at h⟩⟩, below_drewN hb1'.out _, by simp⟩
end Go.Proofs.YticfcjmlphhpgaaDoor
namespace Go.Proofs.YticfcjmlphhpgaaDoor
open Go.RowKit

/-- A slice of numbers. -/
def SliceI (w : World) (v : Value) (cs : List Int) : Prop :=
  ∃ a cap, v = .slice a cs.length cap ∧ cs.length ≤ cap ∧ (∀ c ∈ cs, -9223372036854775808 ≤ c ∧ c ≤ 9223372036854775807) ∧ (0 < cs.length → ∃ b off, a = some ⟨b, off, none⟩ ∧ b < w.heap.size ∧ ∀ j (h : j < cs.length), w.cell? ⟨b, off + j, none⟩ = some (.int .i64 cs[j]))
def catP (ps : List ByteArray) : Bs := ps.flatMap (·.data.toList)
theorem catP_snoc (ps : List ByteArray) (p : ByteArray) : catP (ps ++ [p]) = catP ps ++ p.data.toList := by simp [catP]
/-- What pieces leaves: texts in memory. -/
structure PcS (B : Nat) (w0 : World) (w : World) (v : Value) (ps : List ByteArray) : Prop where
  own : w.ownsRow B 9 1 v ps.length (ps.map Value.string)
  bel : Below B w0 w
theorem map_snoc (ps : List ByteArray) (p : ByteArray) : (ps ++ [p]).map Value.string = ps.map Value.string ++ [.string p] := by simp
theorem PcS.push {B : Nat} {w0 w w' : World} {v v' : Value} {ps : List ByteArray} (h : PcS B w0 w v ps) (p : ByteArray) (hB : B ≤ w.heap.size) (hown : w'.ownsRow B 9 1 v' (ps.length + 1) (ps.map Value.string ++ [.string p])) (hg : (w.alloc (.cells #[.string p] 9)).grownBy w' v.ownBlock) : PcS B w0 w' v' (ps ++ [p]) := by
  refine ⟨?_, ?_⟩
  · rw [map_snoc, List.length_append]; exact hown
  · exact (h.bel.alloc (by exact hB) _).grown hg (by simp; omega) (fun k hk => (h.own.lt k hk).1)
theorem cut_data (s : ByteArray) (n : Nat) : s.data.toList = (s.extract 0 n).data.toList ++ (s.extract n s.size).data.toList := extract_split s n

set_option maxRecDepth 20000 in
set_option maxHeartbeats 4000000 in
theorem pieces_any (s : ByteArray) (v : Value) (cs : List Int) (w : World) (hv : SliceI w v cs) (hs : s.size + cs.length ≤ 262144) :
    Calls Tryd.prog 12 #[.string s, v] w fun e w' => ∃ v' ps, e = .returned v' ∧ PcS w.heap.size w w' v' ps ∧ catP ps = s.data.toList ∧ ps.length ≤ 2 * s.size := by
  obtain ⟨i9, hi9, h90, h91, h92⟩ := info_parts Tryd.info9
  obtain ⟨a, cap, rfl, hcap, hbd, hc⟩ := hv
  have HC := hide hc
  have HBD := hide hbd
  clear hc hbd
  go_enter Tryd.func12, Tryd.ntmps12
  go_wp2
  go_loopw [0, 5, 6, 7] (fun x o k _ w2 => ∃ (s2 : ByteArray) (ps : List ByteArray) (a2 : Option Addr) (cap2 j : Nat), x = .string s2 ∧ o = .slice a2 ps.length cap2 ∧ k = .int .i64 (j : Nat) ∧ j + s2.size ≤ s.size ∧ ps.length + 2 * s2.size ≤ 2 * s.size ∧ Hid (catP ps ++ s2.data.toList = s.data.toList) ∧ Hid (PcS w.heap.size w w2 (.slice a2 ps.length cap2) ps)) (fun x _ _ _ _ => strLen x)
  case atStart => exact ⟨s, [], none, 0, 0, rfl, rfl, rfl, by omega, by simp, hide (by simp [catP]), hide ⟨World.ownsRow_nil _ _ _ _, Below.refl _ _⟩⟩
  case round =>
    obtain ⟨s2, ps, a2, cap2, j, rfl, rfl, rfl, hj, hps, hcat, hP⟩ := hrel
    have hsz := hP.out.bel.size
    by_cases h0 : s2.size = 0
    · have he : s2.toList.isEmpty = true := by
        have : s2.data.toList = [] := List.eq_nil_of_length_eq_zero (by simpa using h0)
        rw [ByteArray.toList_eq, this]; rfl
      have hcat' := hcat.out
      have hnil : s2.data.toList = [] := List.eq_nil_of_length_eq_zero (by simpa using h0)
      rw [hnil, List.append_nil] at hcat'
      have HCat := hide hcat'
      clear hcat hcat' hnil h0
      go_wp2
      go_ret
      exact ⟨_, ps, rfl, hP.out, HCat.out, by omega⟩
    · have he : s2.toList.isEmpty = false := by
        rw [ByteArray.toList_eq]
        cases hh : s2.data.toList with
        | nil => exact absurd (by have := congrArg List.length hh; simpa using this) h0
        | cons a t => rfl
      by_cases hcs : cs.length = 0
      · have hcz : ¬ (0 : Int) < cs.length := by omega
        have hnz : ¬ (s2.size : Int) ≤ 0 := by omega
        have hx2 : (s2.extract s2.size s2.size).size = 0 := by rw [ByteArray.size_extract]; omega
        have HCat' : Hid (catP (ps ++ [s2]) = s.data.toList) := by
          show _ = _
          rw [catP_snoc]; exact hcat.out
        clear hcat
        go_wp2_with (at_builtin; refine wpList_append_own _ rfl (.tmp 33) (.tmp 37) 33 rfl w.heap.size 9 i9 (.string ⟨#[]⟩) 1 16 Tryd.underlying33 hi9 h90 h91 h92 rfl (by decide) _ _ _ rfl (hP.out.own.alloc _) ⟨wr.heap.size, 0, none⟩ 1 1 [.string s2] rfl rfl (cell_one_at _ _ _ _ rfl) (fun x hx => by simp at hx; subst hx; rfl) (by unfold maxLen; omega) (by omega) (by simp; omega) ?_; intro v3 w3 hown3 hgrow3 hnil3; have hP3 := hP.out.push s2 (by omega) hown3 hgrow3; obtain ⟨g3, cap3, rfl, hcap3⟩ := own_form hown3 (by omega); have HP3 := hide hP3; clear hown3 hgrow3 hnil3 hP3)
        go_roundw
        case rel => exact ⟨.string ByteArray.empty, .slice (some ⟨g3, 0, none⟩) (ps.length + 1) cap3, .int .i64 ((j : Int) + 1), ⟨ByteArray.empty, rfl, ps ++ [s2], some ⟨g3, 0, none⟩, cap3, by simp, j + 1, by go_num, by simp; omega, by simp; omega, hide (by rw [HCat'.out]; simp), by simpa using HP3⟩, rfl, rfl, rfl⟩
        case measure => simp [strLen]; omega
      · have hcz : (0 : Int) < cs.length := by omega
        obtain ⟨b, off, rfl, hbl, hcell⟩ := HC.out (by omega)
        have hq : j % cs.length < cs.length := Nat.mod_lt _ (by omega)
        have hrem : Int.tmod (j : Int) (cs.length : Int) = ((j % cs.length : Nat) : Int) := by
          rw [Int.tmod_eq_emod_of_nonneg (by omega)]; rfl
        have cc : wr.cell? ⟨b, off + j % cs.length, none⟩ = some (.int .i64 (cs[j % cs.length]'hq)) := (hP.out.bel.cell (p := ⟨b, off + j % cs.length, none⟩) hbl).trans (hcell _ hq)
        have hcb := HBD.out (cs[j % cs.length]'hq) (List.getElem_mem _)
        have hqz : ((j % cs.length : Nat) : Int) < cs.length := by omega
        generalize (cs[j % cs.length]'hq) = c at cc hcb
        generalize hQ : j % cs.length = q at *
        clear hcell HC HBD hQ
        by_cases hc0 : c ≤ 0
        · have hmin : min (1 : Int) (s2.size : Int) = 1 := by omega
          have hx2 : (s2.extract 1 s2.size).size = s2.size - 1 := by rw [ByteArray.size_extract]; omega
          have HCat' : Hid (catP ((ps ++ [⟨#[]⟩]) ++ [s2.extract 0 1]) ++ (s2.extract 1 s2.size).data.toList = s.data.toList) := by
            show _ = _
            rw [catP_snoc, catP_snoc, List.append_assoc, ← extract_split]
            simpa using hcat.out
          have hone : (1 : Int) ≤ s2.size := by omega
          clear hcat
          go_wp2_with (at_builtin; first
            | (refine wpList_append_own _ rfl (.tmp 26) (.tmp 27) 33 rfl w.heap.size 9 i9 (.string ⟨#[]⟩) 1 16 Tryd.underlying33 hi9 h90 h91 h92 rfl (by decide) _ _ _ rfl (hP.out.own.alloc _) ⟨wr.heap.size, 0, none⟩ 1 1 [.string ⟨#[]⟩] rfl rfl (cell_one_at _ _ _ _ rfl) (fun x hx => by simp at hx; subst hx; rfl) (by unfold maxLen; first | omega | (simp; omega)) (by first | omega | (simp; omega)) (by simp; omega) ?_; intro v3 w3 hown3 hgrow3 hnil3; have hP3 := hP.out.push ⟨#[]⟩ (by omega) hown3 hgrow3; obtain ⟨g3, cap3, rfl, hcap3⟩ := own_form hown3 (by first | omega | simp); have HP3 := hide hP3; have hsz3 := hP3.bel.size; clear hown3 hgrow3 hnil3 hP3)
            | (refine wpList_append_own _ rfl (.tmp 33) (.tmp 37) 33 rfl w.heap.size 9 i9 (.string ⟨#[]⟩) 1 16 Tryd.underlying33 hi9 h90 h91 h92 rfl (by decide) _ _ _ rfl (HP3.out.own.alloc _) ⟨w3.heap.size, 0, none⟩ 1 1 [.string (s2.extract 0 1)] rfl rfl (cell_one_at _ _ _ _ rfl) (fun x hx => by simp at hx; subst hx; rfl) (by unfold maxLen; first | omega | (simp; omega)) (by first | omega | (simp; omega)) (by simp; omega) ?_; intro v4 w4 hown4 hgrow4 hnil4; have hP4 := HP3.out.push (s2.extract 0 1) (by omega) hown4 hgrow4; obtain ⟨g4, cap4, rfl, hcap4⟩ := own_form hown4 (by first | omega | simp); have HP4 := hide hP4; have hsz4 := hP4.bel.size; clear hown4 hgrow4 hnil4 hP4))
          go_roundw
          case rel => exact ⟨s2.extract 1 s2.size, (ps ++ [⟨#[]⟩]) ++ [s2.extract 0 1], some ⟨g4, 0, none⟩, cap4, j + 1, rfl, by simp, by go_num, by rw [hx2]; omega, by rw [hx2]; simp; omega, HCat', by simpa using HP4⟩
          case measure => simp only [strLen]; omega
        · obtain ⟨m, rfl⟩ : ∃ m : Nat, c = (m : Int) := ⟨c.toNat, by omega⟩
          by_cases hm : m < s2.size
          · have hmin : min (m : Int) (s2.size : Int) = m := by omega
            have hx2 : (s2.extract m s2.size).size = s2.size - m := by rw [ByteArray.size_extract]; omega
            have HCat' : Hid (catP (ps ++ [s2.extract 0 m]) ++ (s2.extract m s2.size).data.toList = s.data.toList) := by
              show _ = _
              rw [catP_snoc, List.append_assoc, ← extract_split]
              exact hcat.out
            have hmz : (m : Int) ≤ s2.size := by omega
            clear hcat
            go_wp2_with (at_builtin; (refine wpList_append_own _ rfl (.tmp 33) (.tmp 37) 33 rfl w.heap.size 9 i9 (.string ⟨#[]⟩) 1 16 Tryd.underlying33 hi9 h90 h91 h92 rfl (by decide) _ _ _ rfl (hP.out.own.alloc _) ⟨wr.heap.size, 0, none⟩ 1 1 [.string (s2.extract 0 m)] rfl rfl (cell_one_at _ _ _ _ rfl) (fun x hx => by simp at hx; subst hx; rfl) (by unfold maxLen; first | omega | (simp; omega)) (by first | omega | (simp; omega)) (by simp; omega) ?_; intro v4 w4 hown4 hgrow4 hnil4; have hP4 := hP.out.push (s2.extract 0 m) (by omega) hown4 hgrow4; obtain ⟨g4, cap4, rfl, hcap4⟩ := own_form hown4 (by first | omega | simp); have HP4 := hide hP4; have hsz4 := hP4.bel.size; clear hown4 hgrow4 hnil4 hP4))
            go_roundw
            case rel => exact ⟨s2.extract m s2.size, ps ++ [s2.extract 0 m], some ⟨g4, 0, none⟩, cap4, j + 1, rfl, by simp, by go_num, by rw [hx2]; omega, by rw [hx2]; simp; omega, HCat', by simpa using HP4⟩
            case measure => simp only [strLen]; omega
          · have hmin : min (m : Int) (s2.size : Int) = s2.size := by omega
            have HCat' : Hid (catP (ps ++ [s2]) = s.data.toList) := by
              show _ = _
              rw [catP_snoc]; exact hcat.out
            clear hcat
            go_wp2_with (at_builtin; (refine wpList_append_own _ rfl (.tmp 33) (.tmp 37) 33 rfl w.heap.size 9 i9 (.string ⟨#[]⟩) 1 16 Tryd.underlying33 hi9 h90 h91 h92 rfl (by decide) _ _ _ rfl (hP.out.own.alloc _) ⟨wr.heap.size, 0, none⟩ 1 1 [.string s2] rfl rfl (cell_one_at _ _ _ _ rfl) (fun x hx => by simp at hx; subst hx; rfl) (by unfold maxLen; first | omega | (simp; omega)) (by first | omega | (simp; omega)) (by simp; omega) ?_; intro v3 w3 hown3 hgrow3 hnil3; have hP3 := hP.out.push s2 (by omega) hown3 hgrow3; obtain ⟨g3, cap3, rfl, hcap3⟩ := own_form hown3 (by first | omega | simp); have HP3 := hide hP3; have hsz3 := hP3.bel.size; clear hown3 hgrow3 hnil3 hP3))
            go_roundw
            case rel => exact ⟨ByteArray.empty, ps ++ [s2], some ⟨g3, 0, none⟩, cap3, j + 1, rfl, by simp, by go_num, by simp; omega, by simp; omega, hide (by rw [HCat'.out]; simp), by simpa using HP3⟩
            case measure => simp [strLen]; omega
end Go.Proofs.YticfcjmlphhpgaaDoor
namespace Go.Proofs.YticfcjmlphhpgaaDoor
open Go.RowKit

theorem NR.new {B N R : Nat} {w w' : World} {rd : Rd} (h : NR B N R w rd) (hb : Below w.heap.size w w') : NR B N R w' rd :=
  ⟨(hb.block _ (lt_of_block h.1)).trans h.1, h.2.1, h.2.2.kt (KT.new [] hb) (by simp) (by simp) (by simp) (by simp) (by simp) (by simp)⟩
theorem SliceI.below {w w' : World} {v : Value} {cs : List Int} (h : SliceI w v cs) (hb : Below w.heap.size w w') : SliceI w' v cs := by
  obtain ⟨a, cap, rfl, h1, h2, h3⟩ := h
  refine ⟨a, cap, rfl, h1, h2, fun hn => ?_⟩
  obtain ⟨b, off, rfl, h4, h5⟩ := h3 hn
  refine ⟨b, off, rfl, Nat.lt_of_lt_of_le h4 hb.size, fun j hj => ?_⟩
  rw [← h5 j hj]
  exact hb.cell h4
set_option maxRecDepth 20000 in
set_option maxHeartbeats 1000000 in
theorem narFeed_kt {B N R : Nat} {w : World} {rd : Rd} {tot : Nat} (h : NR B N R w rd) (hI : RInv rd tot) (s : ByteArray) (ht : tot + s.size ≤ 50000000) (hT : Lib.Utf8Tabs 0 1 w) (hB2 : 2 ≤ B) :
    Calls Tryd.prog 13 #[.pointer (some ⟨N, 0, none⟩), .string s] w fun e w' => e = .returned (.int .i64 0) ∧ NR B N R w' (feedF rd s.data.toList) ∧ Below B w w' ∧ KT TS5 w w' := by
  obtain ⟨hN, hBN, hR⟩ := h
  have c0 : w.cell? ⟨N, 0, none⟩ = some (.pointer (some ⟨R, 0, none⟩)) := by simp [World.cell?, hN]
  have cI := hide (isClosed_no N R w hN)
  have cF := hide (treeFeed_any hR hI s ht hT hB2)
  have HN := hide hN
  clear hR hI hT hN
  go_enter Tryd.func13, Tryd.ntmps13
  go_wp2_with fail
  refine cI.out.mono ?_
  rintro e w1 ⟨rfl, rfl⟩
  go_wp2_with fail
  refine cF.out.mono ?_
  rintro e w2 ⟨⟨r, rfl⟩, h2, hb2, hk2⟩
  go_wp2
  go_ret
  exact ⟨rfl, ⟨hk2 _ _ _ _ HN.out (by decide), hBN, h2⟩, hb2, hk2⟩
theorem same_tree (v v' : Value) (ns : List Nd) (w : World) (h : SliceN w v ns) (h' : SliceN w v' ns) (hl : ns.length ≤ 1000000) :
    Calls Tryd.prog 8 #[v, v'] w fun e w' => e = .returned (.bool true) ∧ Below w.heap.size w w' := by
  obtain ⟨a, cap, rfl, _, _, _, h4⟩ := h
  obtain ⟨a', cap', rfl, _, _, _, h4'⟩ := h'
  by_cases h0 : 0 < ns.length
  · obtain ⟨b, off, rfl, h5, h6⟩ := h4 h0
    obtain ⟨b', off', rfl, h5', h6'⟩ := h4' h0
    exact sameTree_any b off cap b' off' cap' ns w h5 h5' h6 h6' hl h0
  · have e : ns.length = 0 := by omega
    rw [e]
    exact sameTree_nil a a' cap cap' w
theorem catP_take (ps : List ByteArray) (k : Nat) (h : k < ps.length) : catP (ps.take (k + 1)) = catP (ps.take k) ++ ps[k].data.toList := by
  rw [List.take_succ_eq_append_getElem h, catP_snoc]
theorem catP_le (ps : List ByteArray) (k : Nat) (h : k < ps.length) : (catP (ps.take k)).length + ps[k].size ≤ (catP ps).length := by
  have e : catP ps = catP (ps.take (k + 1)) ++ catP (ps.drop (k + 1)) := by
    unfold catP
    rw [← List.flatMap_append, List.take_append_drop]
  rw [e, catP_take ps k h]
  have : ps[k].data.toList.length = ps[k].size := by simp
  simp only [List.length_append]
  omega

set_option maxRecDepth 20000 in
set_option maxHeartbeats 4000000 in
theorem Reads_any (s : ByteArray) (v : Value) (cs : List Int) (w : World) (hT : Lib.Utf8Tabs 0 1 w) (hv : SliceI w v cs) (hs0 : s.size ≤ 140737488355328) (hc0 : cs.length ≤ 140737488355328) :
    Calls Tryd.prog 4 #[.string s, v] w fun e w' => e = .returned (.bool true) ∧ Below w.heap.size w w' := by
  by_cases hbig : (262144 : Int) < (s.size : Int) + cs.length
  · obtain ⟨a, cap, rfl, hcap, _, _⟩ := hv
    clear hT
    go_enter Tryd.func4, Tryd.ntmps4
    go_wp2
    go_ret
    exact ⟨rfl, Below.refl _ _⟩
  · have hB2 := tabs_two hT
    have cN := hide (narNew_any w)
    have HT := hide hT
    have HV := hide hv
    obtain ⟨a, cap, hva, hcap, _, _⟩ := hv
    subst hva
    obtain ⟨RR, hRR⟩ : ∃ RR, readF s.data.toList = RR := ⟨_, rfl⟩
    obtain ⟨ns, er, pl⟩ := RR
    have HRR := hide hRR
    have hssz : s.size ≤ 262144 := by omega
    clear hT hRR
    go_enter Tryd.func4, Tryd.ntmps4
    go_wp2_with fail
    refine cN.out.mono ?_
    rintro e w1 ⟨N, R, rfl, hN1, hb1⟩
    have HN1 := hide hN1
    have HB1 := hide hb1
    have cP := hide (pieces_any s _ cs w1 (HV.out.below hb1) (by omega))
    clear cN hN1 hb1
    go_wp2_with fail
    refine cP.out.mono ?_
    rintro e w2 ⟨v2, ps, rfl, hP2, hcat, hpl⟩
    have HN2 := hide (HN1.out.new hP2.bel)
    have HB2 := hide (HB1.out.trans (hP2.bel.mono HB1.out.size))
    obtain ⟨a2, cap2, hv2, hcap2⟩ := own_slice hP2.own
    subst hv2
    have HO2 := hide hP2.own
    have HCat := hide hcat
    have hcl : (catP ps).length = s.size := by rw [hcat]; simp
    clear cP HN1 HB1 hP2 hcat
    go_wp2
    go_loopw [7, 30] (fun _ i w3 => ∃ k : Nat, k ≤ ps.length ∧ i = .int .i64 (k : Nat) ∧ Hid (NR w.heap.size N R w3 (feedF rd0 (catP (ps.take k)))) ∧ Hid (Below w.heap.size w w3) ∧ Hid (w3.ownsRow w1.heap.size 9 1 (.slice a2 ps.length cap2) ps.length (ps.map Value.string))) (fun _ i _ => ps.length - (intOf i).toNat)
    case atStart => exact ⟨0, by omega, rfl, HN2, HB2, HO2⟩
    case round =>
      obtain ⟨k, hk, rfl, HN3, HB3, HO3⟩ := hrel
      by_cases hlt : k < ps.length
      · have hltz : (k : Int) < ps.length := by omega
        obtain ⟨g2, cap2', hv2, hcap2'⟩ := own_form HO3.out (by omega)
        cases hv2
        have hle := catP_le ps k hlt
        have hI := feedF_inv RInv0 (catP (ps.take k))
        rw [Nat.zero_add] at hI
        have cc : wr.cell? ⟨g2, k, none⟩ = some (.string ps[k]) := by
          have := HO3.out.cellAt k (by simpa using hlt)
          simpa [hlt] using this
        have cF := hide (narFeed_kt HN3.out hI ps[k] (by omega) (tabs_B hB2 HT.out HB3.out) hB2)
        have HN4 : Hid (∀ w4, NR w.heap.size N R w4 (feedF (feedF rd0 (catP (ps.take k))) ps[k].data.toList) → NR w.heap.size N R w4 (feedF rd0 (catP (ps.take (k + 1))))) := fun w4 h4 => by rw [catP_take ps k hlt, ← feedF_app]; exact h4
        clear hI HN3
        generalize ps[k] = p at *
        go_wp2_with fail
        refine cF.out.mono ?_
        rintro e w4 ⟨rfl, h4, hb4, hk4⟩
        go_wp2
        go_roundw
        case rel => exact ⟨k + 1, by omega, by go_num, hide (HN4.out _ h4), hide (HB3.out.trans hb4), hide (own_kt HO3.out hk4 (by decide))⟩
        case measure => simp [intOf] <;> omega
      · obtain rfl : k = ps.length := by omega
        have hN5 := HN3.out
        rw [List.take_length, HCat.out] at hN5
        have hI := feedF_inv RInv0 s.data.toList
        have hsl : s.data.toList.length = s.size := by simp
        rw [Nat.zero_add, hsl] at hI
        have cC := hide (narClose_shut hN5 hI (by omega))
        have eR : closeF (feedF rd0 s.data.toList) = (ns, er, pl) := HRR.out
        rw [eR] at cC
        simp only at cC
        clear HN3 hN5 hI hsl eR HO3 hlt
        go_wp2_with fail
        refine cC.out.mono ?_
        rintro e w4 ⟨⟨v4, rfl, hS4⟩, hb4, hsh4⟩
        have HS4 := hide hS4
        have HB4 := hide (HB3.out.trans hb4)
        have HSh4 := hide hsh4
        have cR := hide (rRead_any s w4 (by omega))
        rw [HRR.out] at cR
        simp only at cR
        clear cC hS4 hb4 hsh4 HB3
        go_wp2_with fail
        refine cR.out.mono ?_
        rintro e w5 ⟨⟨v5, rfl, hS5⟩, hb5, hln⟩
        have hsh5 := (hb5.block _ (lt_of_block HSh4.out)).trans HSh4.out
        have HSh5 := hide hsh5
        have cX := hide (narClose_closed N w5 hsh5)
        have cS := hide (same_tree v4 v5 ns w5 (HS4.out.below hb5) hS5 (by omega))
        have HB5 := hide (HB4.out.trans (hb5.mono HB4.out.size))
        clear cR hb5 hS5 HS4 HSh4 HB4 hsh5
        go_wp2_with fail
        refine cX.out.mono ?_
        rintro e w6 ⟨rfl, rfl⟩
        clear cX
        go_wp2_with fail
        refine cS.out.mono ?_
        rintro e w7 ⟨rfl, hb7⟩
        have cG := hide (narFeed_closed N s w7 ((hb7.block _ (lt_of_block HSh5.out)).trans HSh5.out))
        have HB7 := hide (HB5.out.trans (hb7.mono HB5.out.size))
        clear cS hb7
        go_wp2_with fail
        refine cG.out.mono ?_
        rintro e w8 ⟨rfl, rfl⟩
        go_wp2
        go_ret
        exact ⟨by simp, HB7.out⟩
end Go.Proofs.YticfcjmlphhpgaaDoor
