/-
  WALKS, 12: the document's answer: the first node that is wrong.
-/
import Derived.Test.YticfcjmlphhpgaaDoorW11
namespace Go.Proofs.YticfcjmlphhpgaaDoor
open Go.RowKit

def wInt (o : Option Nat) : Int := match o with | none => -1 | some k => (k : Int)
theorem wrongGo_step (ns : List Nd) (j : Nat) (h : j < ns.length) : wrongGo (ns.take j) (ns.drop j) = if rightB (ns.take j) ns[j] = true then wrongGo (ns.take (j + 1)) (ns.drop (j + 1)) else some j := by
  rw [List.drop_eq_getElem_cons h]
  simp only [wrongGo]
  have e : ns.take j ++ [ns[j]] = ns.take (j + 1) := by rw [List.take_succ_eq_append_getElem h]
  have hl : (ns.take j).length = j := by rw [List.length_take]; omega
  rw [e, hl]

set_option maxRecDepth 20000 in
set_option maxHeartbeats 1000000 in
theorem Wrong_any (v : Value) (ns : List Nd) (w : World) (hv : SliceN w v ns) (hsm : Small ns) :
    Calls Tryd.prog 9 #[v] w fun e w' => e = .returned (.int .i64 (wInt (refWrong ns))) ∧ Below w.heap.size w w' := by
  obtain ⟨a, cap, rfl, hcap, hmax, hnone, hcells⟩ := hv
  have hl1 := hsm.1
  by_cases hn : ns.length = 0
  · have hns : ns = [] := List.eq_nil_of_length_eq_zero hn
    subst hns
    have hR : wInt (refWrong []) = 0 := rfl
    rw [hR]
    clear hR hcells
    go_enter Tryd.func9, Tryd.ntmps9
    go_wp2
    refine wp_loop_rounds 1 ?_
    rw [rounds_succ]
    go_wp2
    go_ret
    exact ⟨rfl, Below.refl _ _⟩
  · obtain ⟨b, off, rfl, hbl, hN⟩ := hcells (by omega)
    obtain ⟨R, hR⟩ : ∃ R, refWrong ns = R := ⟨_, rfl⟩
    rw [hR]
    have hne : ((ns.length : Int) == 0) = false := beq_eq_false_iff_ne.2 (by omega)
    have HR : Hid (wrongGo [] ns = R) := by show _ = _; rw [← hR]; unfold refWrong; rw [if_neg (fun e => hn (by rw [e]; rfl))]
    have HN := hide hN
    have HS := hide hsm
    have hcap' := hcap
    clear hR hcells hN hsm hnone
    go_enter Tryd.func9, Tryd.ntmps9
    go_wp2
    go_loopw [3, 6] (fun _ i w1 => ∃ j : Nat, j ≤ ns.length ∧ i = .int .i64 j ∧ Below w.heap.size w w1 ∧ Hid (wrongGo (ns.take j) (ns.drop j) = R)) (fun _ i _ => ns.length - (intOf i).toNat)
    case atStart => exact ⟨0, by omega, rfl, Below.refl _ _, by simpa using HR⟩
    case round =>
      obtain ⟨j, hj, rfl, hbel, HW⟩ := hrel
      have hszr := hbel.size
      by_cases hlt : j < ns.length
      · have hst := wrongGo_step ns j hlt
        rw [HW.out] at hst
        have cR := hide (right_any b off cap ns j hlt hcap hmax wr (by omega) (HN.out.below hbel hbl) HS.out)
        cases hr : rightB (ns.take j) ns[j] with
        | true =>
          rw [hr] at cR hst
          simp only [if_true] at hst
          have HST := hide hst.symm
          clear hst hr
          go_wp2_with fail
          refine cR.out.mono ?_
          rintro e w2 ⟨rfl, hb2⟩
          clear cR
          go_wp2
          go_roundw
          case rel => exact ⟨j + 1, by omega, by go_num, hbel.trans (hb2.mono hszr), HST⟩
          case measure => simp [intOf]; omega
        | false =>
          rw [hr] at cR hst
          rw [if_neg (by decide)] at hst
          subst hst
          clear hr HW HR
          go_wp2_with fail
          refine cR.out.mono ?_
          rintro e w2 ⟨rfl, hb2⟩
          clear cR
          go_wp2
          go_ret
          exact ⟨rfl, hbel.trans (hb2.mono hszr)⟩
      · obtain rfl : j = ns.length := by omega
        have hRv : R = none := by have h := HW.out; rw [List.drop_length] at h; exact h.symm
        subst hRv
        clear HW HR
        go_wp2
        go_ret
        exact ⟨rfl, hbel⟩
end Go.Proofs.YticfcjmlphhpgaaDoor
