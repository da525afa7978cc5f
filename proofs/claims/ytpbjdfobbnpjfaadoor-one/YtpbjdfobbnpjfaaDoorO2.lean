/-
  WALK of narkeep.One.
-/
import Derived.Test.YtpbjdfobbnpjfaaDoorO1
import Derived.Test.YtpbjdfobbnpjfaaDoorC22
namespace Go.Proofs.YtpbjdfobbnpjfaaDoor
open Go.RowKit

theorem same_sl {w : World} {a a' : Option Addr} {c c' : Nat} {ns : List Nd} (h : SliceN w (.slice a ns.length c) ns) (h' : SliceN w (.slice a' ns.length c') ns) (hl : ns.length ≤ 1000000) :
    Calls Tryd.prog 6 #[.slice a ns.length c, .slice a' ns.length c'] w fun e w' => e = .returned (.bool true) ∧ Below w.heap.size w w' := by
  rcases Nat.eq_zero_or_pos ns.length with h0 | h0
  · rw [h0]
    exact same_nil a a' c c' w
  · obtain ⟨_, _, e1, h1, _, _, h2⟩ := h
    obtain ⟨_, _, e2, h1', _, _, h2'⟩ := h'
    injection e1 with e1 _ e3
    injection e2 with e2 _ e4
    subst e1; subst e2; subst e3; subst e4
    obtain ⟨b, off, rfl, hb, hN⟩ := h2 h0
    obtain ⟨b', off', rfl, hb', hN'⟩ := h2' h0
    exact same_any b off c b' off' c' ns w hb hb' hN hN' hl h0
set_option maxRecDepth 20000 in
set_option maxHeartbeats 4000000 in
theorem One_big (s : ByteArray) (n : Int) (w : World) (hs : (16384 : Int) < s.size) :
    Calls Tryd.prog 3 #[.string s, .int .i64 n] w fun e w' => e = .returned (.bool true) ∧ Below w.heap.size w w' := by
  go_enter Tryd.func3, Tryd.ntmps3
  go_wp2
  go_ret
  exact ⟨rfl, Below.refl _ _⟩
set_option maxRecDepth 20000 in
set_option maxHeartbeats 4000000 in
theorem One_any (s : ByteArray) (n : Int) (w : World) (hT : Lib.Utf8Tabs 0 1 w) (hn1 : -9223372036854775808 ≤ n) (hn2 : n ≤ 9223372036854775807) (hs : s.size ≤ 16384) :
    Calls Tryd.prog 3 #[.string s, .int .i64 n] w fun e w' => e = .returned (.bool true) ∧ Below w.heap.size w w' := by
  have cR := hide (Round_any ⟨#[97, 98, 99, 100, 101, 102]⟩ 5 w hT (by omega) (by omega) (by decide))
  have HT := hide hT
  obtain ⟨⟨l, er, pl⟩, hr⟩ : ∃ r, readF s.data.toList = r := ⟨_, rfl⟩
  have hall := read_all s.data.toList
  have cA : Hid (∀ (m : Int) (V : World), -9223372036854775808 ≤ m → m ≤ 9223372036854775807 → Below w.heap.size w V → Calls Tryd.prog 5 #[.string s, .int .i64 m] V fun e w' => (∃ a c, e = .returned (.tuple #[.slice a l.length c, .int .i64 er, .int .i64 (pl : Nat)]) ∧ SliceN w' (.slice a l.length c) l) ∧ Below V.heap.size V w') := hide fun m V h1 h2 hV => by
    have h := read_any s m V (Utf8Tabs_below HT.out hV) (by omega) h1 h2
    rw [hr] at h
    refine h.mono ?_
    rintro e w' ⟨⟨v, rfl, hv⟩, hb⟩
    obtain ⟨a, c, rfl, h3⟩ := id hv
    exact ⟨⟨a, c, rfl, hv⟩, hb⟩
  rw [hr] at hall
  simp only at hall
  have hsl : s.data.toList.length = s.size := by simp
  have hlen : l.length ≤ 1000000 := by
    rcases hall with ⟨_, _, _, h⟩ | ⟨_, h, _⟩
    · have := (tree_small h).1
      omega
    · rw [h]; simp
  have HA := hide hall
  clear hT hr hall
  go_enter Tryd.func3, Tryd.ntmps3
  go_wp2_with fail
  refine cR.out.mono ?_
  rintro e w1 ⟨rfl, hb1⟩
  have HB1 := hide hb1
  clear hb1 cR
  go_wp2_with fail
  refine (cA.out 0 w1 (by omega) (by omega) HB1.out).mono ?_
  rintro e w2 ⟨⟨a2, c2, rfl, hS2⟩, hb2⟩
  have HB2 := hide (HB1.out.trans (hb2.mono HB1.out.size))
  have HS2 := hide hS2
  clear hb2 hS2 HB1
  go_wp2_with fail
  refine (cA.out n w2 hn1 hn2 HB2.out).mono ?_
  rintro e w3 ⟨⟨a3, c3, rfl, hS3⟩, hb3⟩
  have HB3 := hide (HB2.out.trans (hb3.mono HB2.out.size))
  have HS2' := hide (HS2.out.below hb3)
  have HS3 := hide hS3
  clear hb3 hS3 HB2 HS2 cA
  go_wp2_with fail
  refine (same_sl HS2'.out HS3.out hlen).mono ?_
  rintro e w4 ⟨rfl, hb4⟩
  have HB4 := hide (HB3.out.trans (hb4.mono HB3.out.size))
  have HS4 := hide (HS2'.out.below hb4)
  clear hb4 HS3 HS2' HB3
  rcases HA.out with ⟨h1, h2, h3, h4⟩ | ⟨h1, h2, h3⟩
  · subst h1
    subst h2
    have cP : Hid (Calls Tryd.prog 7 #[.slice a2 l.length c2] w4 fun e w' => e = .returned (.tuple #[.string s, .int .i64 0, .int .i64 0]) ∧ Below w4.heap.size w4 w') := hide (by
      have hsm := tree_small h4
      have h := narPack_any (.slice a2 l.length c2) l w4 (Utf8Tabs_below HT.out HB4.out) HS4.out ⟨by omega, fun y hy => by have := hsm.2 y hy; omega⟩
      unfold packRes at h
      rw [h4] at h
      simp only at h
      rw [h3] at h
      exact h)
    have hss : (s.toList == s.toList) = true := by simp
    clear h3 h4 HA HS4
    go_wp2_with fail
    refine cP.out.mono ?_
    rintro e w5 ⟨rfl, hb5⟩
    have HB5 := hide (HB4.out.trans (hb5.mono HB4.out.size))
    clear hb5 cP
    go_wp2
    go_ret
    exact ⟨rfl, HB5.out⟩
  · subst h2
    have h1b : (er == 0) = false := beq_eq_false_iff_ne.2 h1
    have hplz : (pl : Int) ≤ s.size := by omega
    clear HA HS4
    simp only [List.length_nil]
    go_wp2
    go_ret
    exact ⟨rfl, HB4.out⟩
end Go.Proofs.YtpbjdfobbnpjfaaDoor
