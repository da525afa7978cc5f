/-
  WALKS, 5: the first node that is wrong.
-/
import Derived.Test.YtpbjdfobbnpjfaaDoorW4
import Derived.Test.YtpbjdfobbnpjfaaDoorM4
namespace Go.Proofs.YtpbjdfobbnpjfaaDoor
open Go.RowKit

def fwGo : Nat → List (ByteArray × ByteArray) → List Nd → Option Nat
  | _, _, [] => none
  | i, ds, n :: r =>
    if i < 30 ∧ fits n.kind n.data.data.toList = true then
      (if i = 0 then (if n.path.toList.isEmpty = true then fwGo 1 (enterL ds n.path n.kind) r else some 0)
       else match placeRest ds n.path n.kind with
        | some ds' => fwGo (i + 1) ds' r
        | none => some i)
    else some i
def firstW (ns : List Nd) : Option Nat := if ns = [] then some 0 else fwGo 0 [] ns
theorem fwGo_step (ns : List Nd) (k : Nat) (h : k < ns.length) (ds : List (ByteArray × ByteArray)) : fwGo k ds (ns.drop k) =
    if k < 30 ∧ fits ns[k].kind ns[k].data.data.toList = true then
      (if k = 0 then (if ns[k].path.toList.isEmpty = true then fwGo 1 (enterL ds ns[k].path ns[k].kind) (ns.drop (k + 1)) else some 0)
       else match placeRest ds ns[k].path ns[k].kind with
        | some ds' => fwGo (k + 1) ds' (ns.drop (k + 1))
        | none => some k)
    else some k := by
  rw [List.drop_eq_getElem_cons h]; rfl
theorem enterL_length (ds : List (ByteArray × ByteArray)) (p : ByteArray) (k : Int) : (enterL ds p k).length ≤ ds.length + 1 := by
  unfold enterL; split <;> simp
theorem placeRest_length (ds ds' : List (ByteArray × ByteArray)) (p : ByteArray) (k : Int) (h : placeRest ds p k = some ds') : ds'.length ≤ ds.length + 1 := by
  unfold placeRest at h
  simp only at h
  split at h
  · cases h
  · split at h
    · cases h
    · split at h
      · cases h
      · cases h
        refine Nat.le_trans (enterL_length _ _ _) ?_
        simp
        omega
def wRes (o : Option Nat) : Array Value := match o with | none => #[.int .i64 0, .bool false] | some i => #[.int .i64 (i : Int), .bool true]

set_option maxRecDepth 20000 in
set_option maxHeartbeats 2000000 in
theorem firstWrong_any (v : Value) (ns : List Nd) (w : World) (hT : Lib.Utf8Tabs 0 1 w) (hv : SliceN w v ns) (hsm : Small ns) :
    Calls Tryd.prog 17 #[v] w fun e w' => e = .returned (.tuple (wRes (firstW ns))) ∧ Below w.heap.size w w' := by
  obtain ⟨a, cap, rfl, hcap, hmax, hnone, hcells⟩ := hv
  obtain ⟨R, hR⟩ : ∃ R, firstW ns = R := ⟨_, rfl⟩
  rw [hR]
  by_cases hn : ns.length = 0
  · have hns : ns = [] := List.eq_nil_of_length_eq_zero hn
    subst hns
    have hR0 : R = some 0 := by rw [← hR]; rfl
    subst hR0
    clear hR hcells
    go_enter Tryd.func17, Tryd.ntmps17
    go_wp2
    go_ret2
    exact ⟨rfl, Below.refl _ _⟩
  · obtain ⟨b, off, rfl, hbl, hN⟩ := hcells (by omega)
    have hl1 := hsm.1
    have hne : ((ns.length : Int) == 0) = false := beq_eq_false_iff_ne.2 (by omega)
    have HR : Hid (fwGo 0 [] ns = R) := by show _ = _; rw [← hR]; unfold firstW; rw [if_neg (fun e => hn (by rw [e]; rfl))]
    clear hR hcells hnone
    have HN := hide hN
    have HS := hide hsm
    clear hN hsm
    go_enter Tryd.func17, Tryd.ntmps17
    go_wp2
    go_loopw [4, 5, 6, 7, 13] (fun d _ _ _ i w1 => ∃ (k : Nat) (ds : List (ByteArray × ByteArray)), k ≤ ns.length ∧ i = .int .i64 k ∧ w1.ownsRow w.heap.size 87 2 d ds.length (flat2 ds) ∧ Below w.heap.size w w1 ∧ ds.length ≤ k ∧ Hid (fwGo k ds (ns.drop k) = R)) (fun _ _ _ _ i _ => ns.length - (intOf i).toNat)
    case atStart => exact ⟨0, [], by omega, rfl, World.ownsRow_nil _ _ _ _, Below.refl _ _, by simp, by simpa using HR⟩
    case round =>
      obtain ⟨k, ds, hk, rfl, hown, hbel, hdl, HF⟩ := hrel
      have hsz := hbel.size
      by_cases hlt : k < ns.length
      · obtain ⟨c0, c1, c2⟩ := (HN.out.below hbel hbl) k hlt
        have hsk := HS.out.2 _ (List.getElem_mem hlt)
        have hst := fwGo_step ns k hlt ds
        rw [HF.out] at hst
        generalize hp : ns[k].path = path at c0 hst hsk
        generalize hkd : ns[k].kind = kind at c1 hst
        generalize hdt : ns[k].data = data at c2 hst hsk
        clear hp hkd hdt HF
        have HST := hide hst
        clear hst
        by_cases h30 : k < 30
        · have h30z : (k : Int) < 30 := by omega
          have cF := hide (dataFits_any kind data (wr.alloc (.cells #[.string path, .int .i64 kind, .string data] 37)) (by omega))
          by_cases hfit : fits kind data.data.toList = true
          · rw [hfit] at cF
            have hbx : (wr.alloc (.cells #[.string path, .int .i64 kind, .string data] 37)).heap[wr.heap.size]? = some (.cells #[.string path, .int .i64 kind, .string data] 37) := block_new wr _
            have hb1 : Below w.heap.size w (wr.alloc (.cells #[.string path, .int .i64 kind, .string data] 37)) := hbel.alloc hsz _
            have hown1 := hown.alloc (.cells #[.string path, .int .i64 kind, .string data] 37)
            have hsa : (wr.alloc (.cells #[.string path, .int .i64 kind, .string data] 37)).heap.size = wr.heap.size + 1 := by simp
            by_cases hk0 : k = 0
            · subst hk0
              rw [Nat.zero_mul, Nat.add_zero] at c0 c1 c2
              by_cases hpe : path.toList.isEmpty = true
              · have hRR : R = fwGo 1 (enterL ds path kind) (ns.drop 1) := by have h := HST.out; rw [if_pos ⟨by omega, hfit⟩, if_pos rfl, if_pos hpe] at h; exact h
                have HRR := hide hRR.symm
                clear HST hfit hRR
                go_wp2_with fail
                refine cF.out.mono ?_
                rintro e w2 ⟨rfl, rfl⟩
                clear cF
                go_wp2_with fail
                refine (place_root w.heap.size _ ds path kind data _ hown1 (by omega) (by omega) (by omega)).mono ?_
                rintro e w3 ⟨v3, rfl, hown3, hk3⟩
                go_wp2
                go_roundw
                case rel => exact ⟨1, _, by omega, rfl, hown3, hb1.trans hk3.bel, by have := enterL_length ds path kind; omega, HRR⟩
                case measure => simp [intOf]; omega
              · have hpf : path.toList.isEmpty = false := by simpa using hpe
                have hRR : R = some 0 := by have h := HST.out; rw [if_pos ⟨by omega, hfit⟩, if_pos rfl, if_neg hpe] at h; exact h
                subst hRR
                clear HST hfit hpe
                go_wp2_with fail
                refine cF.out.mono ?_
                rintro e w2 ⟨rfl, rfl⟩
                clear cF
                go_wp2_with fail
                refine (place_root w.heap.size _ ds path kind data _ hown1 (by omega) (by omega) (by omega)).mono ?_
                rintro e w3 ⟨v3, rfl, hown3, hk3⟩
                go_wp2
                go_ret2
                exact ⟨rfl, hb1.trans hk3.bel⟩
            · have hk0b : ((k : Int) == 0) = false := beq_eq_false_iff_ne.2 (by omega)
              have hRR : R = match placeRest ds path kind with | some ds' => fwGo (k + 1) ds' (ns.drop (k + 1)) | none => some k := by
                have h := HST.out; rw [if_pos ⟨h30, hfit⟩, if_neg hk0] at h; exact h
              cases hpl : placeRest ds path kind with
              | none =>
                rw [hpl] at hRR
                simp only at hRR
                subst hRR
                have cP := hide (place_rest w hT _ ds path kind data _ hb1 hown1 (by omega) (by omega))
                rw [hpl] at cP
                simp only [Option.isSome_none] at cP
                clear HST hfit hpl
                go_wp2_with fail
                refine cF.out.mono ?_
                rintro e w2 ⟨rfl, rfl⟩
                clear cF
                go_wp2_with fail
                refine cP.out.mono ?_
                rintro e w3 ⟨v3, rfl, _, hk3⟩
                clear cP
                go_wp2
                go_ret2
                exact ⟨rfl, hb1.trans hk3.bel⟩
              | some ds' =>
                rw [hpl] at hRR
                simp only at hRR
                have hdl' := placeRest_length _ _ _ _ hpl
                have HRR := hide hRR.symm
                have cP := hide (place_rest w hT _ ds path kind data _ hb1 hown1 (by omega) (by omega))
                rw [hpl] at cP
                simp only [Option.isSome_some] at cP
                clear HST hfit hpl hRR
                go_wp2_with fail
                refine cF.out.mono ?_
                rintro e w2 ⟨rfl, rfl⟩
                clear cF
                go_wp2_with fail
                refine cP.out.mono ?_
                rintro e w3 ⟨v3, rfl, hown3, hk3⟩
                clear cP
                have hown4 := hown3 ds' rfl
                clear hown3
                go_wp2
                go_roundw
                case rel => exact ⟨k + 1, ds', by omega, by go_num, hown4, hb1.trans hk3.bel, by omega, HRR⟩
                case measure => simp [intOf]; omega
          · have hff : fits kind data.data.toList = false := by simpa using hfit
            have hRR : R = some k := by have h := HST.out; rw [if_neg (fun h => hfit h.2)] at h; exact h
            rw [hff] at cF
            subst hRR
            clear HST hfit hff
            go_wp2_with fail
            refine cF.out.mono ?_
            rintro e w2 ⟨rfl, rfl⟩
            clear cF
            go_wp2
            go_ret2
            exact ⟨rfl, hbel.alloc hsz _⟩
        · have h30z : ¬ (k : Int) < 30 := by omega
          have h30b : decide ((k : Int) < 30) = false := decide_eq_false h30z
          have hRR : R = some k := by have h := HST.out; rw [if_neg (fun h => h30 h.1)] at h; exact h
          subst hRR
          clear HST
          go_wp2
          go_ret2
          exact ⟨rfl, hbel.alloc hsz _⟩
      · obtain rfl : k = ns.length := by omega
        have hRR : R = none := by have h := HF.out; rw [List.drop_length] at h; exact h.symm
        subst hRR
        clear HF
        go_wp2
        go_ret2
        exact ⟨rfl, hbel⟩
end Go.Proofs.YtpbjdfobbnpjfaaDoor
