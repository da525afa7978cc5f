/-
  WALKS of the document's reader, 1: it in memory; fail, next.
-/
import Derived.Test.YticfcjmlphhpgaaDoorC8
import Derived.Test.YticfcjmlphhpgaaDoorN1
namespace Go.Proofs.YticfcjmlphhpgaaDoor
open Go.RowKit

/-- The document's reader in memory. -/
structure QR (B R : Nat) (w : World) (s : ByteArray) (v : Value) (st : Ns) : Prop where
  blk : w.heap[R]? = some (.cells #[.string s, .int .i64 st.pos, .int .i64 st.e, .int .i64 st.bad, v] 56 (0, 0))
  BR : B ≤ R
  nd : w.ownsRow B 45 3 v st.l.length (flat3 st.l)
  le : st.pos ≤ s.size
  ll : st.l.length ≤ st.pos
theorem QR.kt {ts : List TypeId} {B R : Nat} {w w' : World} {s : ByteArray} {v : Value} {st : Ns} (h : QR B R w s v st) (hk : KT ts w w') (h56 : ¬ 56 ∈ ts) (h45 : ¬ 45 ∈ ts) : QR B R w' s v st :=
  ⟨hk _ _ _ _ h.blk h56, h.BR, own_kt h.nd hk h45, h.le, h.ll⟩
theorem QR.new {B R : Nat} {w w' : World} {s : ByteArray} {v : Value} {st : Ns} (h : QR B R w s v st) (hb : Below w.heap.size w w') : QR B R w' s v st := h.kt (KT.new [] hb) (by simp) (by simp)
theorem QR.lt {B R : Nat} {w : World} {s : ByteArray} {v : Value} {st : Ns} (h : QR B R w s v st) : R < w.heap.size := lt_of_block h.blk
theorem QR.row {B R : Nat} {w : World} {s : ByteArray} {v : Value} {st : Ns} (h : QR B R w s v st) : v.ownBlock ≠ some R := fun e => by
  obtain ⟨c, fz, hc⟩ := own_kind h.nd R e
  rw [h.blk] at hc
  injection hc with hc
  injection hc with _ hc _
  exact absurd hc (by decide)
/-- What a call leaves: the reader, and all else as it was. -/
def QP (B R : Nat) (w : World) (s : ByteArray) (v : Value) (st : Ns) (w' : World) : Prop := QR B R w' s v st ∧ Below B w w' ∧ KT [56] w w'
theorem QR.same {B R : Nat} {w : World} {s : ByteArray} {v : Value} {st : Ns} (h : QR B R w s v st) : QP B R w s v st w := ⟨h, Below.refl _ _, KT.refl _ _⟩
theorem QP.trans {B R : Nat} {w w1 w2 : World} {s : ByteArray} {v : Value} {st1 st2 : Ns} (h : QP B R w s v st1 w1) (k : QP B R w1 s v st2 w2) : QP B R w s v st2 w2 := ⟨k.1, h.2.1.trans k.2.1, h.2.2.trans k.2.2⟩
theorem QP.after {B R : Nat} {w w1 w2 : World} {s : ByteArray} {v : Value} {st : Ns} (hb : Below w.heap.size w w1) (hB : B ≤ w.heap.size) (k : QP B R w1 s v st w2) : QP B R w s v st w2 := ⟨k.1, (hb.mono hB).trans k.2.1, (KT.new _ hb).trans k.2.2⟩
theorem QR.Bw {B R : Nat} {w : World} {s : ByteArray} {v : Value} {st : Ns} (h : QR B R w s v st) : B ≤ w.heap.size := by have := h.lt; have := h.BR; omega
theorem QR.setPos {B R : Nat} {w : World} {s : ByteArray} {v : Value} {st : Ns} (h : QR B R w s v st) (n : Nat) (hn : n ≤ s.size) (hl : st.l.length ≤ n) : QP B R w s v ⟨n, st.e, st.bad, st.l⟩ (w.setCell ⟨R, 1, none⟩ (.int .i64 n)) :=
  ⟨⟨block_set h.blk 1 _, h.BR, ownsRow_setCell_other h.nd h.row _, hn, hl⟩, (Below.refl B w).setCell h.BR _, (KT.refl [56] w).set h.blk (by decide) _ _⟩

set_option maxRecDepth 20000 in
set_option maxHeartbeats 400000 in
theorem rfail_any {B R : Nat} {w : World} {s : ByteArray} {v : Value} {st : Ns} (h : QR B R w s v st) (er : Int) (p : Nat) :
    Calls Tryd.prog 28 #[.pointer (some ⟨R, 0, none⟩), .int .i64 er, .int .i64 p] w fun e w' => (∃ r, e = .returned r) ∧ QP B R w s v (st.fail er p) w' := by
  have hR := h.blk
  have c2 : w.cell? ⟨R, 2, none⟩ = some (.int .i64 st.e) := by simp [World.cell?, hR]
  by_cases he : st.e = 0
  · have c3 : w.cell? ⟨R, 3, none⟩ = some (.int .i64 st.bad) := by simp [World.cell?, hR]
    have f2 : w.frozen? ⟨R, 2, none⟩ = false := by simp [World.frozen?, hR]
    have f3 : w.frozen? ⟨R, 3, none⟩ = false := by simp [World.frozen?, hR]
    have e1 : st.fail er p = ⟨st.pos, er, p, st.l⟩ := by unfold Ns.fail; rw [if_pos he]
    rw [e1]
    rw [he] at c2
    go_enter Tryd.func28, Tryd.ntmps28
    go_wp2
    go_end0
    have b2 := block_set hR 2 (.int .i64 er)
    have b3 := block_set b2 3 (.int .i64 (p : Nat))
    have o2 := ownsRow_setCell_other h.nd (a := ⟨R, 2, none⟩) h.row (.int .i64 er)
    refine ⟨⟨_, rfl⟩, ⟨b3, h.BR, ownsRow_setCell_other o2 h.row _, h.le, h.ll⟩, ?_, ?_⟩
    · exact ((Below.refl B w).setCell h.BR _).setCell h.BR _
    · exact ((KT.refl [56] w).set hR (by decide) _ _).set b2 (by decide) _ _
  · rw [fail_dead he]
    have hb : (st.e == 0) = false := beq_eq_false_iff_ne.2 he
    go_enter Tryd.func28, Tryd.ntmps28
    go_wp2
    go_end0
    exact ⟨⟨_, rfl⟩, h.same⟩
theorem nextN_live (s : Bs) (m : Nat) (st : Ns) (he : st.e = 0) : nextN s m st = match cutF (s.drop st.pos) m with
    | .wait => (st.fail 2 s.length, ⟨#[]⟩)
    | .bad e => (st.fail e st.pos, ⟨#[]⟩)
    | .ok t _ n => (⟨st.pos + n, st.e, st.bad, st.l⟩, ⟨t.toArray⟩) := by unfold nextN; rw [if_neg (by rw [he]; simp)]; rfl
theorem ba_of {a : ByteArray} {l : Bs} (h : a.data.toList = l) : a = ⟨l.toArray⟩ := by subst h; rfl
theorem num8_at (L : Bs) (j : Nat) (h : j < 8) (hl : 8 ≤ L.length) : num8 ((L.take 8).drop j) = (L[j]'(by omega)).toNat + 256 * num8 ((L.take 8).drop (j + 1)) := by
  have hj : j < (L.take 8).length := by rw [List.length_take]; omega
  rw [List.drop_eq_getElem_cons hj, num8, List.getElem_take]
theorem whole_eq (n : Nat) : (8 + n + 7) / 8 * 8 = wholeOf n := by unfold wholeOf padLen; omega
/-- So much of a number as tells whether it is too great. -/
def Cl (m V : Nat) : Prop := m < 562949953421312 ∧ (m = V ∨ (1099511627776 < m ∧ 1099511627776 < V))
theorem Cl.step {m V : Nat} (h : Cl m V) (b : Nat) (hb : b < 256) : Cl (256 * (if 1099511627776 < m then 1099511627776 else m) + b) (b + 256 * V) := by
  unfold Cl at *
  split <;> omega
theorem getD_at (D : ByteArray) (L : Bs) (h : D.data.toList = L) (j : Nat) (hj : j < D.size) (hj2 : j < L.length) : D[j].toNat = L[j].toNat := by
  subst h
  rfl

set_option maxRecDepth 20000 in
set_option maxHeartbeats 1000000 in
theorem rnext_any {B R : Nat} {w : World} {s : ByteArray} {v : Value} {st : Ns} (h : QR B R w s v st) (most : Nat) (hm : most ≤ 1000) (hs : s.size ≤ 50000000) :
    Calls Tryd.prog 62 #[.pointer (some ⟨R, 0, none⟩), .int .i64 most] w fun e w' => e = .returned (.string (nextN s.data.toList most st).2) ∧ QP B R w s v (nextN s.data.toList most st).1 w' := by
  have c2 : w.cell? ⟨R, 2, none⟩ = some (.int .i64 st.e) := by simp [World.cell?, h.blk]
  by_cases he : st.e = 0
  · obtain ⟨RES, hRES⟩ : ∃ RES, nextN s.data.toList most st = RES := ⟨_, rfl⟩
    rw [hRES]
    rw [nextN_live _ _ _ he] at hRES
    have hle := h.le
    obtain ⟨L, hL⟩ : ∃ L, s.data.toList.drop st.pos = L := ⟨_, rfl⟩
    rw [hL] at hRES
    have hLl : L.length = s.size - st.pos := by rw [← hL]; simp
    have hsl : s.data.toList.length = s.size := by simp
    rw [hsl] at hRES
    clear hsl
    obtain ⟨D, hD⟩ : ∃ D, s.extract st.pos s.size = D := ⟨_, rfl⟩
    have hDL : Hid (D.data.toList = L) := by
      show _ = _
      rw [← hD, ← hL, Lib.extract_data, List.take_of_length_le (by simp)]
    have hDs : D.size = L.length := by rw [← hDL.out]; simp
    have hllp := h.ll
    have hBw := h.Bw
    have H := hide h
    rw [he] at c2
    have c0 : w.cell? ⟨R, 0, none⟩ = some (.string s) := by simp [World.cell?, h.blk]
    have c1 : w.cell? ⟨R, 1, none⟩ = some (.int .i64 st.pos) := by simp [World.cell?, h.blk]
    have hpz : (st.pos : Int) ≤ s.size := by omega
    have HR := hide hRES
    clear hL hRES h
    go_enter Tryd.func62, Tryd.ntmps62
    go_wp2
    go_quiet (fail)
    have H1 := hide (H.out.new (drewNB w nq))
    have hb1 := hide (drewNB w nq)
    clear H c0 c1 c2 hD
    generalize w.drewN nq = W at H1 hb1 ⊢
    have c0 : W.cell? ⟨R, 0, none⟩ = some (.string s) := by simp [World.cell?, H1.out.blk]
    have c1 : W.cell? ⟨R, 1, none⟩ = some (.int .i64 st.pos) := by simp [World.cell?, H1.out.blk]
    by_cases h8 : L.length < 8
    · have hc : cutF L most = .wait := by unfold cutF; rw [if_pos h8]
      have HR' := HR.out
      rw [hc] at HR'
      subst HR'
      have h8z : (D.size : Int) < 8 := by omega
      have cF := hide (rfail_any H1.out 2 s.size)
      clear HR hc
      go_wp2_with fail
      refine cF.out.mono ?_
      rintro e w2 ⟨⟨r, rfl⟩, hq⟩
      go_wp2
      go_ret
      exact ⟨rfl, QP.after hb1.out hBw hq⟩
    · have h8z : ¬ (D.size : Int) < 8 := by omega
      have HDB : Hid (∀ j (h1 : j < D.size) (h2 : j < L.length), D[j].toNat = L[j].toNat) := fun j h1 h2 => getD_at D L hDL.out j h1 h2
      obtain ⟨V, hV⟩ : ∃ V, num8 (L.take 8) = V := ⟨_, rfl⟩
      have HC0 : Hid (Cl 0 (num8 ((L.take 8).drop 8))) := by
        have : (L.take 8).drop 8 = [] := List.drop_eq_nil_of_le (by rw [List.length_take]; omega)
        rw [this]
        exact hide ⟨by omega, .inl rfl⟩
      go_wp2
      go_loop [6, 7] (fun n i => ∃ (j m : Nat) (z : Int), j ≤ 8 ∧ z = (j : Int) - 1 ∧ i = .int .i64 z ∧ n = .int .u64 (m : Nat) ∧ Hid (Cl m (num8 ((L.take 8).drop j)))) (fun _ i => (intOf i + 1).toNat)
      case atStart => exact ⟨8, 0, 7, by omega, rfl, rfl, rfl, HC0⟩
      case round =>
        obtain ⟨j, m, z, hj, hz, rfl, rfl, hC⟩ := hrel
        cases j with
        | succ j =>
          obtain rfl : z = (j : Int) := by omega
          clear hz HC0
          have hjD : j < D.size := by omega
          have hjL : j < L.length := by omega
          have hC' := hC.out.step L[j].toNat L[j].toNat_lt
          rw [← num8_at L j (by omega) (by omega), ← HDB.out j hjD hjL] at hC'
          have HC := hide hC'
          have hb256 := D[j].toNat_lt
          have hm49 : m < 562949953421312 := hC.out.1
          clear hC' hC
          by_cases hbig : 1099511627776 < m
          · rw [if_pos hbig] at HC
            have hbz : (1099511627776 : Int) < m := by omega
            go_wp2
            go_round
            case rel => exact ⟨j, _, _, by omega, rfl, by go_num, by go_num, HC⟩
            case measure => simp [intOf] <;> omega
          · rw [if_neg hbig] at HC
            have hbz : ¬ (1099511627776 : Int) < m := by omega
            go_wp2
            go_round
            case rel => exact ⟨j, _, _, by omega, rfl, by go_num, by go_num, HC⟩
            case measure => simp [intOf] <;> omega
        | zero =>
          obtain rfl : z = -1 := by omega
          clear hz HC0
          rw [List.drop_zero, hV] at hC
          have hm49 := hC.out.1
          have hor := hC.out.2
          clear hC
          by_cases hbig : most < V
          · have hc : cutF L most = .bad 3 := by unfold cutF; rw [if_neg h8, if_pos (by rw [hV]; exact hbig)]
            have HR' := HR.out
            rw [hc] at HR'
            subst HR'
            have hbz : (most : Int) < m := by omega
            have cF := hide (rfail_any H1.out 3 st.pos)
            clear HR hc hor
            go_wp2_with fail
            refine cF.out.mono ?_
            rintro e w2 ⟨⟨r, rfl⟩, hq⟩
            go_wp2
            go_ret
            exact ⟨rfl, QP.after hb1.out hBw hq⟩
          · obtain rfl : m = V := by omega
            have hbz : ¬ (most : Int) < m := by omega
            obtain ⟨F, hF⟩ : ∃ F, wholeOf m = F := ⟨_, rfl⟩
            have hFz : ((8 + (m : Int) + 7) / 8 * 8) = (F : Int) := by rw [← hF, ← whole_eq]; omega
            have hFm : 8 + m ≤ F := by rw [← hF]; exact wholeOf_ge m
            have hF2 : F ≤ 8 + m + 7 := by rw [← hF, ← whole_eq]; omega
            clear hor
            by_cases hshort : L.length < F
            · have hc : cutF L most = .wait := by unfold cutF; rw [if_neg h8, if_neg (by rw [hV]; exact hbig), if_pos (by rw [hV, hF]; exact hshort)]
              have HR' := HR.out
              rw [hc] at HR'
              subst HR'
              have hsz : (D.size : Int) < F := by omega
              have cF := hide (rfail_any H1.out 2 s.size)
              clear HR hc hF
              go_wp2_with fail
              refine cF.out.mono ?_
              rintro e w2 ⟨⟨r, rfl⟩, hq⟩
              go_wp2
              go_ret
              exact ⟨rfl, QP.after hb1.out hBw hq⟩
            · have hFL : F ≤ D.size := by omega
              have hsz : ¬ (D.size : Int) < F := by omega
              have hcut : ∀ Z : Bool, ((L.take F).drop (8 + m)).all (· == 0) = Z → cutF L most = if Z = true then .ok ((L.drop 8).take m) (L.drop F) F else .bad 4 := by
                intro Z hZ
                unfold cutF
                rw [if_neg h8, if_neg (by rw [hV]; exact hbig), if_neg (by rw [hV, hF]; exact hshort), hV, hF, hZ]
              have HCUT := hide hcut
              have hext : D.extract 8 (8 + m) = ⟨((L.drop 8).take m).toArray⟩ := ba_of (by rw [Lib.extract_data, hDL.out]; simp)
              have HEXT := hide hext
              have hmz : (8 : Int) + m ≤ D.size := by omega
              have f1 : W.frozen? ⟨R, 1, none⟩ = false := by simp [World.frozen?, H1.out.blk]
              have HA0 : Hid (((L.take (8 + m)).drop (8 + m)).all (· == 0) = true) := by
                have : (L.take (8 + m)).drop (8 + m) = [] := List.drop_eq_nil_of_le (by rw [List.length_take]; omega)
                show _ = _
                rw [this]; rfl
              clear hcut hext hF hV hbig hDL
              go_wp2
              go_loop [10] (fun i => ∃ k : Nat, 8 + m ≤ k ∧ k ≤ F ∧ i = .int .i64 (k : Nat) ∧ Hid (((L.take k).drop (8 + m)).all (· == 0) = true)) (fun i => F - (intOf i).toNat)
              case atStart => exact ⟨8 + m, by omega, hFm, by go_num, HA0⟩
              case round =>
                obtain ⟨k, hk1, hk2, rfl, hA⟩ := hrel
                by_cases hlt : k < F
                · have hkD : k < D.size := by omega
                  have hkL : k < L.length := by omega
                  have hkz : (k : Int) < F := by omega
                  have hbyte := HDB.out k hkD hkL
                  by_cases h0 : L[k].toNat = 0
                  · rw [h0] at hbyte
                    have hb0 : ((D[k].toNat : Int) == 0) = true := by rw [hbyte]; rfl
                    have hA' : Hid (((L.take (k + 1)).drop (8 + m)).all (· == 0) = true) := by
                      have e : L.take (k + 1) = L.take k ++ [L[k]] := List.take_succ_eq_append_getElem hkL
                      have e0 : L[k] = 0 := UInt8.toNat_inj.1 h0
                      show _ = _
                      rw [e, List.drop_append_of_le_length (by rw [List.length_take]; omega), List.all_append, hA.out, e0]
                      rfl
                    clear h0 hbyte hA
                    go_wp2
                    go_round
                    case rel => exact ⟨k + 1, by omega, by omega, by go_num, hA'⟩
                    case measure => simp [intOf] <;> omega
                  · have hb0 : ((D[k].toNat : Int) == 0) = false := beq_eq_false_iff_ne.2 (by omega)
                    have hf : ((L.take F).drop (8 + m)).all (· == 0) = false := by
                      rw [Bool.eq_false_iff]
                      intro e
                      have hin : L[k] ∈ (L.take F).drop (8 + m) := by
                        rw [List.mem_iff_getElem]
                        exact ⟨k - (8 + m), by rw [List.length_drop, List.length_take]; omega, by rw [List.getElem_drop, List.getElem_take]; congr 1; omega⟩
                      have := List.all_eq_true.1 e _ hin
                      have e0 : L[k] = 0 := by simpa using this
                      rw [e0] at h0
                      exact h0 rfl
                    have HR' := HR.out
                    rw [HCUT.out false hf] at HR'
                    simp only [Bool.false_eq_true, if_false] at HR'
                    subst HR'
                    have cF := hide (rfail_any H1.out 4 st.pos)
                    clear h0 hbyte hA hf HR HCUT
                    go_wp2_with fail
                    refine cF.out.mono ?_
                    rintro e w2 ⟨⟨r, rfl⟩, hq⟩
                    go_wp2
                    go_ret
                    exact ⟨rfl, QP.after hb1.out hBw hq⟩
                · obtain rfl : k = F := by omega
                  have HR' := HR.out
                  rw [HCUT.out true hA.out] at HR'
                  simp only [if_true] at HR'
                  subst HR'
                  have hkz : ¬ (k : Int) < k := by omega
                  have hq := hide (H1.out.setPos (st.pos + k) (by omega) (by omega))
                  clear HR HCUT hA hlt
                  go_wp2
                  go_ret
                  rw [HEXT.out]
                  refine ⟨rfl, QP.after hb1.out hBw ?_⟩
                  have := hq.out
                  rw [show ((st.pos + k : Nat) : Int) = (st.pos : Int) + k by omega, he] at this
                  exact this
  · rw [next_dead he]
    have hb : (st.e == 0) = false := beq_eq_false_iff_ne.2 he
    go_enter Tryd.func62, Tryd.ntmps62
    go_wp2
    go_ret
    exact ⟨rfl, h.same⟩
end Go.Proofs.YticfcjmlphhpgaaDoor
namespace Go.Proofs.YticfcjmlphhpgaaDoor
open Go.RowKit

theorem wordN_yes {s : Bs} {may : List ByteArray} {st : Ns} (h : hasB (nextN s 8 st).2 may = true) (he : (nextN s 8 st).1.e = 0) : wordN s may st = nextN s 8 st := by unfold wordN; rw [if_pos ⟨h, he⟩]
theorem wordN_no {s : Bs} {may : List ByteArray} {st : Ns} (h : ¬ (hasB (nextN s 8 st).2 may = true ∧ (nextN s 8 st).1.e = 0)) : wordN s may st = ((nextN s 8 st).1.fail 5 st.pos, ⟨#[]⟩) := by unfold wordN; rw [if_neg h]

set_option maxRecDepth 20000 in
set_option maxHeartbeats 1000000 in
theorem rword_any {B R : Nat} {w : World} {s : ByteArray} {v : Value} {st : Ns} (h : QR B R w s v st) (b : Nat) (may : List ByteArray) (hb : w.heap[b]? = some (.cells (may.map Value.string).toArray 9 (0, 0))) (hml : may.length ≤ 1000) (hs : s.size ≤ 50000000) :
    Calls Tryd.prog 61 #[.pointer (some ⟨R, 0, none⟩), .slice (some ⟨b, 0, none⟩) may.length may.length] w fun e w' => e = .returned (.string (wordN s.data.toList may st).2) ∧ QP B R w s v (wordN s.data.toList may st).1 w' := by
  have c1 : w.cell? ⟨R, 1, none⟩ = some (.int .i64 st.pos) := by simp [World.cell?, h.blk]
  have cN := hide (rnext_any h 8 (by omega) hs)
  obtain ⟨W, hW⟩ : ∃ W, wordN s.data.toList may st = W := ⟨_, rfl⟩
  rw [hW]
  have Hy : Hid (hasB (nextN s.data.toList 8 st).2 may = true → (nextN s.data.toList 8 st).1.e = 0 → W = nextN s.data.toList 8 st) := fun a c => by rw [← hW]; exact wordN_yes a c
  have Hn : Hid (¬ (hasB (nextN s.data.toList 8 st).2 may = true ∧ (nextN s.data.toList 8 st).1.e = 0) → W = ((nextN s.data.toList 8 st).1.fail 5 st.pos, ⟨#[]⟩)) := fun a => by rw [← hW]; exact wordN_no a
  generalize nextN s.data.toList 8 st = NX at cN Hy Hn
  obtain ⟨st1, t⟩ := NX
  simp only at cN Hy Hn
  have hB := hide hb
  clear h hW hb
  go_enter Tryd.func61, Tryd.ntmps61
  go_wp2_with fail
  refine cN.out.mono ?_
  rintro e w1 ⟨rfl, hq⟩
  have Q1 := hide hq
  have c2 : w1.cell? ⟨R, 2, none⟩ = some (.int .i64 st1.e) := by simp [World.cell?, hq.1.blk]
  have hb1 := hq.2.2 _ _ _ _ hB.out (by decide)
  have hB1 := hide hb1
  clear cN c1 hq hb1 hB
  go_wp2
  go_loop [8, 17] (fun _ i => ∃ k : Nat, k ≤ may.length ∧ i = .int .i64 k ∧ Hid (∀ j (hj : j < may.length), j < k → ¬ (t = may[j] ∧ st1.e = 0))) (fun _ i => may.length - (intOf i).toNat)
  case atStart => exact ⟨0, by omega, rfl, fun j _ hj => by omega⟩
  case round =>
    obtain ⟨k, hk, rfl, hno⟩ := hrel
    by_cases hlt : k < may.length
    · have hz : (k : Int) < may.length := by omega
      have cb : w1.cell? ⟨b, k, none⟩ = some (.string may[k]) := by simp [World.cell?, hB1.out, hlt]
      by_cases e1 : t = may[k]
      · have hb : (t.toList == may[k].toList) = true := by rw [e1]; simp
        by_cases e0 : st1.e = 0
        · have hWe := Hy.out ((hasB_iff _ _).2 (by rw [e1]; exact List.getElem_mem _)) e0
          subst hWe
          rw [e0] at c2
          clear e1 Hy Hn hno
          go_wp2
          go_ret
          exact ⟨rfl, Q1.out⟩
        · have h0 : (st1.e == 0) = false := beq_eq_false_iff_ne.2 e0
          have hno' : Hid (∀ j (hj : j < may.length), j < k + 1 → ¬ (t = may[j] ∧ st1.e = 0)) := fun j hj hjk hh => e0 hh.2
          clear e1 e0
          go_wp2
          go_round
          case rel => exact ⟨k + 1, by omega, by go_num, hno'⟩
          case measure => simp [intOf]; omega
      · have hb := eqB_false e1
        have hno' : Hid (∀ j (hj : j < may.length), j < k + 1 → ¬ (t = may[j] ∧ st1.e = 0)) := fun j hj hjk hh => by
          by_cases e : j = k
          · subst e; exact e1 hh.1
          · exact hno.out j hj (by omega) hh
        clear e1
        go_wp2
        go_round
        case rel => exact ⟨k + 1, by omega, by go_num, hno'⟩
        case measure => simp [intOf]; omega
    · obtain rfl : k = may.length := by omega
      have hWe := Hn.out (fun hh => by
        obtain ⟨j, hj, e⟩ := List.getElem_of_mem ((hasB_iff _ _).1 hh.1)
        exact hno.out j hj hj ⟨e.symm, hh.2⟩)
      subst hWe
      have cF := hide (rfail_any Q1.out.1 5 st.pos)
      clear Hy Hn hno hlt
      go_wp2_with fail
      refine cF.out.mono ?_
      rintro e w2 ⟨⟨r, rfl⟩, hq⟩
      go_wp2
      go_ret
      exact ⟨rfl, Q1.out.trans hq⟩

/-- The words lie in a new block. -/
theorem rword_new {B R : Nat} {w : World} {s : ByteArray} {v : Value} {st : Ns} (h : QR B R w s v st) (may : List ByteArray) (cs : Array Value) (hcs : cs = (may.map Value.string).toArray) (m : Nat) (hm : m = may.length) (b : Nat) (hb : b = w.heap.size) (hml : may.length ≤ 1000) (hs : s.size ≤ 50000000) :
    Calls Tryd.prog 61 #[.pointer (some ⟨R, 0, none⟩), .slice (some ⟨b, 0, none⟩) m m] (w.alloc (.cells cs 9)) fun e w' => e = .returned (.string (wordN s.data.toList may st).2) ∧ QP B R w s v (wordN s.data.toList may st).1 w' := by
  subst hcs; subst hm; subst hb
  have hb0 := (Below.refl _ w).alloc (Nat.le_refl _) (.cells (may.map Value.string).toArray 9)
  refine (rword_any (h.new hb0) w.heap.size may (block_new w _) hml hs).mono ?_
  rintro e w' ⟨he, hq⟩
  exact ⟨he, QP.after hb0 h.Bw hq⟩

set_option maxRecDepth 20000 in
set_option maxHeartbeats 400000 in
theorem rmust_any {B R : Nat} {w : World} {s : ByteArray} {v : Value} {st : Ns} (h : QR B R w s v st) (x : ByteArray) (hs : s.size ≤ 50000000) :
    Calls Tryd.prog 42 #[.pointer (some ⟨R, 0, none⟩), .string x] w fun e w' => (∃ r, e = .returned r) ∧ QP B R w s v (mustN s.data.toList x st) w' := by
  have cW := hide (rword_new h [x] #[.string x] rfl 1 rfl w.heap.size rfl (by simp) hs)
  have e0 : mustN s.data.toList x st = (wordN s.data.toList [x] st).1 := rfl
  rw [e0]
  clear h e0
  generalize wordN s.data.toList [x] st = WX at cW ⊢
  go_enter Tryd.func42, Tryd.ntmps42
  go_wp2_with fail
  refine cW.out.mono ?_
  rintro e w1 ⟨rfl, hq⟩
  go_wp2
  go_end0
  exact ⟨⟨_, rfl⟩, hq⟩
end Go.Proofs.YticfcjmlphhpgaaDoor
