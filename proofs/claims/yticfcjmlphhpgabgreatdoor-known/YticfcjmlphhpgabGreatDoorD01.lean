import Derived.Test.YticfcjmlphhpgabGreatDoorB21
import Derived.Test.YticfcjmlphhpgabGreatDoorB24
import Derived.Test.YticfcjmlphhpgabGreatDoorB14
import Derived.Test.YticfcjmlphhpgabGreatDoorB15
import Derived.Deep.CutBlock
import Derived.Test.YticfcjmlphhpgabGreatDoorB30
import Derived.Test.YticfcjmlphhpgabGreatDoorB33
/-
  What Known calls: Sum, Pack, strs, leaf.
-/
namespace Go.Proofs.YticfcjmlphhpgabGreatDoor
open Go.RowKit Go.Maps

set_option maxRecDepth 20000 in
set_option maxHeartbeats 400000 in
theorem narSum_any (s : ByteArray) (w : World) (hs : s.size ≤ 1000000) : Calls Tryz.prog 16 #[.string s] w fun e w' => e = .returned (.string (sumO s)) ∧ Below w.heap.size w w' := by
  have cC := hide (Sm.wireSum_any s w (by unfold maxLen; omega))
  go_enter Tryz.func16, Tryz.ntmps16
  go_wp2_with fail
  refine cC.out.mono ?_
  rintro e w1 ⟨rfl, hb⟩
  have HB := hide hb
  clear hb
  go_wp2
  go_ret
  exact ⟨rfl, HB.out⟩
set_option maxRecDepth 20000 in
set_option maxHeartbeats 400000 in
theorem narPack_any (v : Value) (ns : List Nd) (w : World) (hT : Lib.Utf8Tabs 0 1 w) (hv : SliceN w v ns) (hsm : Small ns) (hf : firstW ns = none) :
    Calls Tryz.prog 17 #[v] w fun e w' => e = .returned (.tuple #[.string (packB ns), .int .i64 0, .int .i64 0]) ∧ Below w.heap.size w w' := by
  have cC := hide (treePack_any v ns w hT hv hsm)
  unfold packRes at cC
  rw [hf] at cC
  obtain ⟨a, c, rfl, _⟩ := hv
  go_enter Tryz.func17, Tryz.ntmps17
  go_wp2_with fail
  refine cC.out.mono ?_
  rintro e w1 ⟨rfl, hb⟩
  have HB := hide hb
  clear hb
  go_wp2
  go_ret3
  exact ⟨rfl, HB.out⟩
set_option maxRecDepth 20000 in
set_option maxHeartbeats 400000 in
theorem leaf_any (s : ByteArray) (w : World) : Calls Tryz.prog 19 #[.string s] w fun e w' => e = .returned (.slice (some ⟨w.heap.size, 0, none⟩) 1 1) ∧ w' = w.alloc (.cells #[.string ⟨#[]⟩, .int .i64 1, .string s] 43) := by
  go_enter Tryz.func19, Tryz.ntmps19
  go_wp2
  go_ret
  exact ⟨rfl, rfl⟩
def szU : Value → Nat
  | .string b => b.size
  | _ => 0
def strB (ss : List ByteArray) : ByteArray := ⟨(bytesOf ss).toArray⟩
theorem strB_data (ss : List ByteArray) : (strB ss).data.toList = bytesOf ss := by unfold strB; simp
theorem strB_size (ss : List ByteArray) : (strB ss).size = (bytesOf ss).length := by unfold strB; simp [ByteArray.size]
theorem le_small (n : Nat) (h : n < 256) : le (n : Int) 8 = UInt8.ofNat n :: List.replicate 7 0 := by
  have : ∀ m : Fin 256, le ((m.val : Nat) : Int) 8 = UInt8.ofNat m.val :: List.replicate 7 0 := by decide +kernel
  exact this ⟨n, h⟩
theorem conv_len (W : World) (b : Nat) (hb : b = W.heap.size) (n : Nat) (h1 : n < 256) : (convert 39 9 (.slice (some ⟨b, 0, none⟩) 1 1)).run Tryz.prog (W.alloc (.cells #[.int .u8 (n : Int)] 5)) = .ok (.string ⟨#[UInt8.ofNat n]⟩) (W.alloc (.cells #[.int .u8 (n : Int)] 5)) := by
  subst hb
  refine run_convert_bytes_back (P := Tryz.prog) _ 39 9 5 ⟨W.heap.size, 0, none⟩ 1 [UInt8.ofNat n] Tryz.underlying39 Tryz.underlying5 Tryz.underlying9 (fun j hj => ?_)
  simp at hj
  subst hj
  have h : (UInt8.ofNat n).toNat = n := by rw [UInt8.toNat_ofNat']; omega
  have e : ((⟨W.heap.size, 0, none⟩ : Addr).add 0) = ⟨W.heap.size, 0, none⟩ := rfl
  simp only [List.getElem_cons_zero, h, e]
  unfold World.cell?
  simp only [block_new]
  rfl
theorem bytesOf_snoc (ss : List ByteArray) (k : Nat) (h : k < ss.length) : bytesOf (ss.take (k + 1)) = bytesOf (ss.take k) ++ enc ss[k].data.toList := encs_take ss k h
theorem bytes_mod (ss : List ByteArray) : (bytesOf ss).length % 8 = 0 := by
  induction ss with
  | nil => rfl
  | cons a r ih =>
    have e : bytesOf (a :: r) = enc a.data.toList ++ bytesOf r := rfl
    rw [e, List.length_append, enc_len]
    unfold wholeOf padLen
    omega
theorem ba_of {a b : ByteArray} (h : a.data.toList = b.data.toList) : a = b := ba_eqL h
set_option maxRecDepth 20000 in
set_option maxHeartbeats 1000000 in
theorem strs_any (v : Value) (ss : List ByteArray) (w : World) (hv : SliceS w v ss) (hl : ss.length ≤ 1000) (hs : ∀ s ∈ ss, s.size < 256) :
    Calls Tryz.prog 18 #[v] w fun e w' => e = .returned (.string (strB ss)) ∧ Below w.heap.size w w' := by
  obtain ⟨a, cc, rfl, hcap, hcell⟩ := hv
  have HC := hide hcell
  clear hcell
  have hbd : ∀ k, (bytesOf (ss.take k)).length ≤ 1000 * 400 := fun k => by
    have : ∀ l : List ByteArray, (∀ s ∈ l, s.size < 256) → (bytesOf l).length ≤ l.length * 400 := by
      intro l
      induction l with
      | nil => intro _; simp [bytesOf, encs]
      | cons x r ih =>
        intro h
        have e : bytesOf (x :: r) = enc x.data.toList ++ bytesOf r := rfl
        have h1 := ih fun s hs => h s (List.mem_cons_of_mem _ hs)
        have h2 := h x List.mem_cons_self
        have h3 := enc_len_le x
        rw [e, List.length_append, List.length_cons, Nat.add_mul]
        omega
    have h1 := this (ss.take k) fun s hs' => hs s (List.mem_of_mem_take hs')
    have h2 : (ss.take k).length ≤ 1000 := by rw [List.length_take]; omega
    have := Nat.mul_le_mul_right 400 h2
    omega
  go_enter Tryz.func18, Tryz.ntmps18
  go_wp2
  go_loopw [3, 5, 8] (fun v3 _ v8 w1 => ∃ k : Nat, k ≤ ss.length ∧ v8 = .int .i64 (k : Nat) ∧ v3 = .string (strB (ss.take k)) ∧ Hid (Below w.heap.size w w1)) (fun _ _ v8 _ => ss.length - (intOf v8).toNat)
  case atStart => exact ⟨0, by omega, rfl, rfl, hide (Below.refl _ _)⟩
  case round =>
    obtain ⟨k, hk, rfl, rfl, HB⟩ := hrel
    have hsz := HB.out.size
    by_cases hlt : k < ss.length
    · have hltz : (k : Int) < ss.length := by omega
      obtain ⟨g, o, rfl, hg, hcl⟩ := HC.out (by omega)
      have hcl := (HB.out.cell (p := ⟨g, o + k, none⟩) hg).trans (hcl k hlt)
      have hx := hs ss[k] (List.getElem_mem _)
      have hsn := bytesOf_snoc ss k hlt
      have hm := bytes_mod (ss.take k)
      have hb1 := hbd k
      obtain ⟨x, hxe⟩ : ∃ x, ss[k] = x := ⟨_, rfl⟩
      rw [hxe] at hcl hx hsn
      have hX := strB_size (ss.take k)
      have hXd := strB_data (ss.take k)
      generalize strB (ss.take k) = X at hX hXd
      rw [← hX] at hm hb1
      have hxz : (x.size : Int) < 256 := by omega
      have hcv := fun (W : World) b hb => conv_len W b hb x.size hx
      have hwr : IntKind.u8.wrap (x.size : Int) = (x.size : Int) := by rw [IntKind.wrap_u8']; omega
      have h7 : (⟨#[0, 0, 0, 0, 0, 0, 0]⟩ : ByteArray).size = 7 := rfl
      have h1' : (⟨#[UInt8.ofNat x.size]⟩ : ByteArray).size = 1 := rfl
      have hpl : padLen x.size < 8 := by unfold padLen; omega
      go_upto_region 6 with fail
      have HB2 := hide (HB.out.alloc hsz (.cells #[.int .u8 (x.size : Int)] 5))
      generalize wr.alloc (.cells #[.int .u8 (x.size : Int)] 5) = w2 at HB2 ⊢
      obtain ⟨Y, hY, hYd⟩ : ∃ Y, X ++ (⟨#[UInt8.ofNat x.size]⟩ ++ ⟨#[0, 0, 0, 0, 0, 0, 0]⟩ ++ x) = Y ∧ Y.data.toList = bytesOf (ss.take k) ++ (le (x.size : Int) 8 ++ x.data.toList) := ⟨_, rfl, by
        rw [data_append, data_append, data_append, hXd, le_small _ hx]; rfl⟩
      rw [hY]
      have hYs : Y.size = X.size + 8 + x.size := by rw [← hY, ByteArray.size_append, ByteArray.size_append, ByteArray.size_append]; omega
      clear hcv hwr
      go_loopw [3] (fun v3 w3 => ∃ (j : Nat) (Z : ByteArray), j ≤ padLen x.size ∧ v3 = .string Z ∧ Z.size = Y.size + j ∧ Hid (Z.data.toList = Y.data.toList ++ List.replicate j 0) ∧ Hid (Below w.heap.size w w3)) (fun v3 _ => Y.size + 8 - szU v3)
      case atStart => exact ⟨0, Y, by omega, rfl, rfl, hide (by simp), HB2⟩
      case round =>
        obtain ⟨j, Z, hj, rfl, hZ, HZ, HB3⟩ := hrel
        have h0 : (⟨#[0]⟩ : ByteArray).size = 1 := rfl
        have hZ1 : Z.size ≤ 500000 := by omega
        by_cases hjl : j < padLen x.size
        · have hmod : ¬ (Z.size : Int) % 8 = 0 := by
            unfold padLen at hjl
            omega
          have hmod2 : ((Z.size : Int) % 8 == 0) = false := beq_eq_false_iff_ne.2 hmod
          go_wp2
          go_roundw
          case rel => exact ⟨j + 1, Z ++ ⟨#[0]⟩, by omega, rfl, by rw [ByteArray.size_append]; omega, hide (by rw [data_append, HZ.out, List.append_assoc, List.replicate_succ']), HB3⟩
          case measure => simp only [szU]; rw [ByteArray.size_append]; omega
        · obtain rfl : j = padLen x.size := by omega
          have hmod : (Z.size : Int) % 8 = 0 := by
            unfold padLen at hZ
            omega
          have hmod2 : ((Z.size : Int) % 8 == 0) = true := beq_iff_eq.2 hmod
          have hZe : Hid (Z = strB (ss.take (k + 1))) := hide (ba_eqL (by
            have hxl : x.data.toList.length = x.size := by simp
            rw [HZ.out, hYd, strB_data, hsn]
            unfold enc
            rw [hxl]
            simp only [List.append_assoc]))
          go_wp2
          go_roundw
          case rel => exact ⟨k + 1, by omega, by go_num, by rw [hZe.out], HB3⟩
          case measure => simp [intOf]; omega
    · obtain rfl : k = ss.length := by omega
      rw [List.take_length]
      go_wp2
      go_ret
      exact ⟨rfl, HB.out⟩
end Go.Proofs.YticfcjmlphhpgabGreatDoor
/-
  MATHEMATICS of Known.
-/
namespace Go.Proofs.YticfcjmlphhpgabGreatDoor
open Go.RowKit Go.Maps

theorem known_sum0 : sumO ⟨#[]⟩ = ⟨#[37, 35, 34, 132, 228, 156, 242, 203]⟩ := by decide +kernel
theorem known_sum1 : sumO ⟨#[97]⟩ = ⟨#[140, 236, 1, 134, 76, 220, 99, 175]⟩ := by decide +kernel
def kL : List Nd := [⟨⟨#[]⟩, 4, ⟨#[]⟩⟩, ⟨⟨#[98]⟩, 4, ⟨#[]⟩⟩, ⟨⟨#[98, 47, 120]⟩, 2, ⟨#[114, 117, 110]⟩⟩, ⟨⟨#[99]⟩, 3, ⟨#[98, 47, 120]⟩⟩]
theorem known_first : firstW kL = none := by decide +kernel
def leafN (d : ByteArray) : List Nd := [⟨⟨#[]⟩, 1, d⟩]
/-- The rows that are inserted. -/
def kRows : List (Ent × Int) := [
  (⟨⟨#[]⟩, leafN ⟨#[]⟩, []⟩, 11), (⟨⟨#[65]⟩, [], [⟨#[98]⟩, ⟨#[97]⟩]⟩, 11), (⟨⟨#[49, 50, 51, 52, 53, 54, 55, 56, 57, 48, 49, 50, 51]⟩, leafN ⟨#[]⟩, []⟩, 11), (⟨⟨#[97]⟩, [], [⟨#[98]⟩, ⟨#[97]⟩]⟩, 1), (⟨⟨#[97]⟩, leafN ⟨#[]⟩, [⟨#[98]⟩, ⟨#[97]⟩]⟩, 7), (⟨⟨#[97]⟩, leafN ⟨#[]⟩, [⟨#[97]⟩, ⟨#[97]⟩]⟩, 7), (⟨⟨#[97]⟩, leafN ⟨#[]⟩, [⟨#[98]⟩]⟩, 13),
  (⟨⟨#[109]⟩, leafN ⟨#[109]⟩, [⟨#[109]⟩]⟩, 0), (⟨⟨#[109]⟩, leafN ⟨#[109]⟩, [⟨#[109]⟩]⟩, 0), (⟨⟨#[109]⟩, leafN ⟨#[110]⟩, [⟨#[109]⟩]⟩, 12), (⟨⟨#[109]⟩, leafN ⟨#[109]⟩, []⟩, 12), (⟨⟨#[109]⟩, leafN ⟨#[110]⟩, [⟨#[120]⟩]⟩, 13), (⟨⟨#[122]⟩, leafN ⟨#[122]⟩, [⟨#[109]⟩]⟩, 0), (⟨⟨#[98]⟩, leafN ⟨#[98]⟩, [⟨#[109]⟩]⟩, 0), (⟨⟨#[97]⟩, leafN ⟨#[97]⟩, [⟨#[98]⟩, ⟨#[122]⟩]⟩, 0)]
theorem kRows_len : kRows.length = 15 := rfl
def kSt (k : Nat) : List Ent := (kRows.take k).foldl (fun S r => (insertF S r.1).2) []
theorem known_ins : ∀ k : Fin 15, (insertF (kSt k.val) (kRows[k.val]'(by rw [kRows_len]; exact k.isLt)).1).1 = (kRows[k.val]'(by rw [kRows_len]; exact k.isLt)).2 := by decide +kernel
/-- The order of a closure, by reckoning. -/
def ordB (P : ByteArray → Bool) (S : List Ent) : List ByteArray → List ByteArray → Bool
  | out, [] => (HP.nextF P S out).isNone
  | out, p :: r => match HP.nextF P S out with
    | some e => decide (e.path = p) && ordB P S (out ++ [p]) r
    | none => false
theorem nextF_congr {P P' : ByteArray → Bool} {S : List Ent} (h : ∀ e ∈ S, P e.path = P' e.path) (out : List ByteArray) : HP.nextF P S out = HP.nextF P' S out := by
  unfold HP.nextF
  have : ∀ l : List Ent, (∀ e ∈ l, P e.path = P' e.path) → l.find? (HP.condB P out) = l.find? (HP.condB P' out) := by
    intro l
    induction l with
    | nil => exact fun _ => rfl
    | cons x l ih =>
      intro h
      have hx : HP.condB P out x = HP.condB P' out x := by unfold HP.condB; rw [h x List.mem_cons_self]
      rw [List.find?_cons, List.find?_cons, hx, ih fun e he => h e (List.mem_cons_of_mem _ he)]
  exact this S h
theorem ordB_ok {P P' : ByteArray → Bool} {S : List Ent} (h : ∀ e ∈ S, P e.path = P' e.path) : ∀ (r out : List ByteArray), HP.OrdSt P S out → ordB P' S out r = true → HP.Final P S (out ++ r)
  | [], out, ho, hb => by
    rw [List.append_nil]
    refine ⟨ho, ?_⟩
    rw [nextF_congr h]
    simpa [ordB] using hb
  | p :: r, out, ho, hb => by
    simp only [ordB] at hb
    cases hn : HP.nextF P' S out with
    | none => rw [hn] at hb; cases hb
    | some e =>
      rw [hn] at hb
      simp only [Bool.and_eq_true, decide_eq_true_eq] at hb
      obtain ⟨rfl, hb⟩ := hb
      have h1 := HP.OrdSt.snoc ho ((nextF_congr h out).trans hn)
      have := ordB_ok h r (out ++ [e.path]) h1 hb
      rw [List.append_assoc] at this
      exact this
theorem closR_of {S : List Ent} {roots R out : List ByteArray} (hl : lackR S roots = false) (h1 : ∀ p ∈ R, HP.Rch S roots p) (h2 : roots.all (fun p => inL R p) = true) (h3 : S.all (fun e => !inL R e.path || e.refs.all fun r => inL R r) = true) (ho : ordB (fun p => inL R p) S [] out = true) : ClosR S roots out := by
  unfold ClosR
  rw [if_neg (by rw [hl]; simp)]
  have hin : ∀ p, HP.Rch S roots p → inL R p = true := fun p hp => by
    refine HP.Rch.least (Q := fun p => inL R p = true) (fun p hp => List.all_eq_true.1 h2 p hp) (fun e he hq r hr => ?_) hp
    have := List.all_eq_true.1 h3 e he
    rw [hq] at this
    exact List.all_eq_true.1 (by simpa using this) r hr
  have hP : ∀ e ∈ S, HP.rchB S roots e.path = inL R e.path := fun e _ => by
    cases hi : inL R e.path with
    | true => exact HP.rchB_iff.2 (h1 _ (HP.inL_iff.1 hi))
    | false =>
      cases hr : HP.rchB S roots e.path with
      | false => rfl
      | true => rw [hin _ (HP.rchB_iff.1 hr)] at hi; cases hi
  have := ordB_ok hP out [] .nil ho
  exact this
def kS : List Ent := kSt 15
def bA : ByteArray := ⟨#[97]⟩
def bB : ByteArray := ⟨#[98]⟩
def bM : ByteArray := ⟨#[109]⟩
def bZ : ByteArray := ⟨#[122]⟩
theorem kS_eq : kS = [⟨bA, leafN bA, [bB, bZ]⟩, ⟨bB, leafN bB, [bM]⟩, ⟨bM, leafN bM, [bM]⟩, ⟨bZ, leafN bZ, [bM]⟩] := by kernel_rfl
theorem kS_clos : ClosR kS [bA] [bM, bB, bZ, bA] := by
  have ra : HP.Rch kS [bA] bA := .root (by simp)
  have rb : HP.Rch kS [bA] bB := .ref (e := ⟨bA, leafN bA, [bB, bZ]⟩) ra (by rw [kS_eq]; simp) (by simp)
  have rz : HP.Rch kS [bA] bZ := .ref (e := ⟨bA, leafN bA, [bB, bZ]⟩) ra (by rw [kS_eq]; simp) (by simp)
  have rm : HP.Rch kS [bA] bM := .ref (e := ⟨bB, leafN bB, [bM]⟩) rb (by rw [kS_eq]; simp) (by simp)
  refine closR_of (R := [bA, bB, bM, bZ]) (by decide +kernel) (fun p hp => ?_) (by decide +kernel) (by decide +kernel) (by decide +kernel)
  simp only [List.mem_cons, List.not_mem_nil, or_false] at hp
  rcases hp with rfl | rfl | rfl | rfl <;> assumption
theorem kS_clos2 : ClosR kS [bB, bM] [bM, bB] := by
  have rb : HP.Rch kS [bB, bM] bB := .root (by simp)
  have rm : HP.Rch kS [bB, bM] bM := .root (by simp)
  refine closR_of (R := [bB, bM]) (by decide +kernel) (fun p hp => ?_) (by decide +kernel) (by decide +kernel) (by decide +kernel)
  simp only [List.mem_cons, List.not_mem_nil, or_false] at hp
  rcases hp with rfl | rfl <;> assumption
theorem kS_clos0 : ClosR kS [] [] :=
  closR_of (R := []) (by decide +kernel) (fun p hp => by cases hp) (by decide +kernel) (by decide +kernel) (by decide +kernel)
def kOne : ByteArray := packB (leafN bM)
def kTwo : ByteArray := packB (leafN bB)
theorem leaf_first (d : ByteArray) (h : d.size ≤ 100) : firstW (leafN d) = none := by
  refine firstW_run _ [] (by simp [leafN]) ?_
  have hf : fits 1 d.data.toList = true := by
    unfold fits; rw [if_neg (by decide), if_pos (.inl rfl)]
    have : d.data.toList.length = d.size := by simp
    exact decide_eq_true (by omega)
  unfold leafN
  simp only [runF]
  have : stepW 0 [] ⟨⟨#[]⟩, 1, d⟩ = some [] := by
    unfold stepW
    rw [if_pos ⟨by omega, hf⟩, if_pos rfl, if_pos (by rw [ByteArray.toList_eq]; rfl)]
    rfl
  rw [this]
theorem known_pack : packB kL = strB [⟨#[110, 97, 114, 45, 49]⟩, ⟨#[40]⟩, ⟨#[116, 121, 112, 101]⟩, ⟨#[100, 105, 114]⟩, ⟨#[101, 110, 116, 114, 121]⟩, ⟨#[40]⟩, ⟨#[110, 97, 109, 101]⟩, ⟨#[98]⟩, ⟨#[110, 111, 100, 101]⟩, ⟨#[40]⟩, ⟨#[116, 121, 112, 101]⟩, ⟨#[100, 105, 114]⟩, ⟨#[101, 110, 116, 114, 121]⟩, ⟨#[40]⟩, ⟨#[110, 97, 109, 101]⟩, ⟨#[120]⟩, ⟨#[110, 111, 100, 101]⟩, ⟨#[40]⟩, ⟨#[116, 121, 112, 101]⟩, ⟨#[102, 105, 108, 101]⟩, ⟨#[101, 120, 101, 99]⟩, ⟨#[]⟩, ⟨#[100, 97, 116, 97]⟩, ⟨#[114, 117, 110]⟩, ⟨#[41]⟩, ⟨#[41]⟩, ⟨#[41]⟩, ⟨#[41]⟩, ⟨#[101, 110, 116, 114, 121]⟩, ⟨#[40]⟩, ⟨#[110, 97, 109, 101]⟩, ⟨#[99]⟩, ⟨#[110, 111, 100, 101]⟩, ⟨#[40]⟩, ⟨#[116, 121, 112, 101]⟩, ⟨#[108, 105, 110, 107]⟩, ⟨#[116, 111]⟩, ⟨#[98, 47, 120]⟩, ⟨#[41]⟩, ⟨#[41]⟩, ⟨#[41]⟩] := by kernel_rfl
/-- The words of Known. -/
def xE1 : ByteArray := ⟨#[101, 120, 112, 111, 114, 116, 45, 49]⟩
def xE2 : ByteArray := ⟨#[101, 120, 112, 111, 114, 116, 45, 50]⟩
def xPa : ByteArray := ⟨#[112, 97, 116, 104]⟩
def xRs : ByteArray := ⟨#[114, 101, 102, 115]⟩
def xRf : ByteArray := ⟨#[114, 101, 102]⟩
def xSm : ByteArray := ⟨#[115, 117, 109]⟩
def xEn : ByteArray := ⟨#[101, 110, 100]⟩
theorem known_exp : exportB kS [bB, bM] [bM, bB] = strB [xE1, xPa, bM] ++ kOne ++ strB [xRs, xRf, bM, xSm, sumO kOne, xPa, bB] ++ kTwo ++ strB [xRs, xRf, bM, xSm, sumO kTwo, xEn] := by decide +kernel
theorem known_exp0 : exportB kS [] [] = strB [xE1, xEn] := by decide +kernel
def kNone : ByteArray := strB [xE1, xEn]
def kPath : ByteArray := strB [xE1, xPa]
def kWhole : ByteArray := kPath ++ strB [bM] ++ kOne ++ strB [xRs]
def kImps : List (ByteArray × Int × Nat) := [
  (kNone, 0, 0), (kNone ++ ⟨#[120]⟩, 10, kNone.size), (strB [xE2], 5, 0), (strB [xE1], 2, 16), (kPath ++ strB [⟨#[77]⟩], 11, 32), (kPath ++ strB [⟨#[49, 50, 51, 52, 53, 54, 55, 56, 57, 48, 49, 50, 51]⟩], 3, 32), (kPath ++ strB [bM, ⟨#[110, 97, 114, 45, 50]⟩], 5, 48), (kWhole ++ strB [xEn], 5, kWhole.size), (kWhole ++ strB [xRf, ⟨#[113]⟩], 13, kWhole.size + 16), (kWhole ++ strB [xRf, bM, xRf, bM], 7, kWhole.size + 48), (kWhole ++ strB [xSm, ⟨#[49, 50, 51, 52, 53, 54, 55, 56]⟩], 16, kWhole.size + 16), (kWhole ++ strB [xSm, sumO kOne], 2, kWhole.size + 32), (kWhole ++ strB [xSm, sumO kOne, xPa, bM], 7, kWhole.size + 48), (kWhole ++ strB [xSm, sumO kOne, xEn], 0, 0)]
theorem kImps_len : kImps.length = 14 := rfl
theorem known_imp : ∀ k : Fin 14, (importF [] (kImps[k.val]'(by rw [kImps_len]; exact k.isLt)).1.data.toList).1.2 = (kImps[k.val]'(by rw [kImps_len]; exact k.isLt)).2 := by decide +kernel
/-- Six more. -/
def kN (k : Nat) : ByteArray := ⟨#[107, UInt8.ofNat (48 + k)]⟩
def kMore (k : Nat) : List Ent := (List.range k).foldl (fun S j => (insertF S ⟨kN j, leafN ⟨#[]⟩, []⟩).2) kS
theorem known_more : ∀ k : Fin 6, (insertF (kMore k.val) ⟨kN k.val, leafN ⟨#[]⟩, []⟩).1 = 0 := by decide +kernel
def kT : List Ent := kMore 6
theorem known_full : insertF kT ⟨⟨#[102, 117, 108, 108]⟩, leafN ⟨#[]⟩, []⟩ = (14, kT) := by kernel_rfl
theorem known_same : insertF kT ⟨bM, leafN bM, [bM]⟩ = (0, kT) := by kernel_rfl
def kQ : ByteArray := strB [xE1, xPa, ⟨#[113]⟩] ++ kOne ++ strB [xRs, xSm, sumO kOne, xEn]
theorem known_q : (importF kT kQ.data.toList).1.2 = (14, (strB [xE1, xPa, ⟨#[113]⟩] ++ kOne ++ strB [xRs, xSm]).size) := by decide +kernel
end Go.Proofs.YticfcjmlphhpgabGreatDoor
/-
  Known: what lies in memory.
-/
namespace Go.Proofs.YticfcjmlphhpgabGreatDoor
open Go.RowKit Go.Maps

theorem eqb_of {a : ByteArray} {l : List UInt8} (h : a = ⟨l.toArray⟩) : (a.toList == l) = true := by
  subst h
  rw [ByteArray.toList_eq]
  simp
theorem blk_cell {W : World} {i j : Nat} {cur : Array Value} {t : TypeId} (h : W.heap[i]? = some (.cells cur t (0, 0))) : W.cell? ⟨i, j, none⟩ = cur[j]? := by
  unfold World.cell?
  rw [h]
  simp
theorem strs_blk {W : World} {i : Nat} (ss : List ByteArray) (h : W.heap[i]? = some (.cells (ss.map Value.string).toArray 9 (0, 0))) : SliceS W (.slice (some ⟨i, 0, none⟩) ss.length ss.length) ss := by
  refine ⟨_, _, rfl, Nat.le_refl _, fun _ => ⟨i, 0, rfl, (Array.getElem?_eq_some_iff.1 h).1, fun j hj => ?_⟩⟩
  rw [blk_cell h, Nat.zero_add]
  simp [hj]
theorem strs_new (W : World) (ss : List ByteArray) : SliceS (W.alloc (.cells (ss.map Value.string).toArray 9)) (.slice (some ⟨W.heap.size, 0, none⟩) ss.length ss.length) ss := strs_blk ss (block_new W _)
theorem strs_nil (W : World) : SliceS W (.slice none 0 0) [] := ⟨_, _, rfl, Nat.le_refl _, fun h => absurd h (Nat.lt_irrefl 0)⟩
theorem nodes_blk {W : World} {i : Nat} (ns : List Nd) (hl : ns.length ≤ 1000000) (h : W.heap[i]? = some (.cells (flat3 ns).toArray 43 (0, 0))) : SliceN W (.slice (some ⟨i, 0, none⟩) ns.length ns.length) ns := by
  refine ⟨_, _, rfl, Nat.le_refl _, by unfold maxLen; omega, (fun h => by cases h), fun _ => ⟨i, 0, rfl, (Array.getElem?_eq_some_iff.1 h).1, fun j hj => ?_⟩⟩
  have h3 := flat3_get ns j hj
  refine ⟨?_, ?_, ?_⟩
  · rw [blk_cell h, List.getElem?_toArray]; simpa using h3.1
  · rw [blk_cell h, List.getElem?_toArray]; simpa using h3.2.1
  · rw [blk_cell h, List.getElem?_toArray]; simpa using h3.2.2
theorem nodes_nil (W : World) : SliceN W (.slice none 0 0) [] := ⟨_, _, rfl, Nat.le_refl _, by simp [maxLen], fun _ => rfl, fun h => absurd h (Nat.lt_irrefl 0)⟩
theorem leaf_blk {W : World} {i : Nat} (d : ByteArray) (h : W.heap[i]? = some (.cells #[.string ⟨#[]⟩, .int .i64 1, .string d] 43 (0, 0))) : SliceN W (.slice (some ⟨i, 0, none⟩) 1 1) (leafN d) := nodes_blk (leafN d) (by simp [leafN]) h
theorem leaf_small (d : ByteArray) (h : d.size ≤ 1000000) : Small (leafN d) := ⟨by simp [leafN], fun n hn => by simp [leafN] at hn; subst hn; exact ⟨Nat.zero_le _, h⟩⟩
/-- The blocks that are laid one behind another. -/
theorem blocks_at (w : World) : ∀ (os : List Obj) (j : Nat), (os.foldl World.alloc w).heap[w.heap.size + j]? = os[j]? ∧ (os.foldl World.alloc w).heap.size = w.heap.size + os.length := by
  intro os
  induction os generalizing w with
  | nil => exact fun j => ⟨by simp, rfl⟩
  | cons o os ih =>
    intro j
    obtain ⟨h1, h2⟩ := ih (w.alloc o) (j - 1)
    rw [World.size_alloc] at h1 h2
    refine ⟨?_, by rw [List.foldl_cons, h2, List.length_cons]; omega⟩
    rw [List.foldl_cons]
    cases j with
    | succ j =>
      rw [List.getElem?_cons_succ]
      rw [show w.heap.size + 1 + (j + 1 - 1) = w.heap.size + (j + 1) by omega] at h1
      exact h1
    | zero =>
      rw [List.getElem?_cons_zero, Nat.add_zero]
      have hb : Below (w.heap.size + 1) (w.alloc o) (os.foldl World.alloc (w.alloc o)) := by
        have : ∀ (l : List Obj) (V : World), w.heap.size + 1 ≤ V.heap.size → Below (w.heap.size + 1) V (l.foldl World.alloc V) := by
          intro l
          induction l with
          | nil => exact fun V _ => Below.refl _ _
          | cons x l ih2 => exact fun V hV => ((Below.refl _ V).alloc hV x).trans (ih2 (V.alloc x) (by rw [World.size_alloc]; omega))
        exact this os _ (by rw [World.size_alloc]; omega)
      rw [hb.block _ (by omega)]
      exact block_new w o
theorem below_blocks (w : World) (os : List Obj) : Below w.heap.size w (os.foldl World.alloc w) := by
  have : ∀ (l : List Obj) (V : World), w.heap.size ≤ V.heap.size → Below w.heap.size V (l.foldl World.alloc V) := by
    intro l
    induction l with
    | nil => exact fun V _ => Below.refl _ _
    | cons x l ih2 => exact fun V hV => ((Below.refl _ V).alloc hV x).trans (ih2 (V.alloc x) (by rw [World.size_alloc]; omega))
  exact this os _ (Nat.le_refl _)
/-- The table of what is inserted. -/
def TabP (W : World) (g : Nat) : Prop := ∃ f : Nat → Value × Value, ∀ k (hk : k < 15), W.cell? ⟨g, 4 * k, none⟩ = some (.string (kRows[k]'(by rw [kRows_len]; exact hk)).1.path) ∧ W.cell? ⟨g, 4 * k + 1, none⟩ = some (f k).1 ∧ W.cell? ⟨g, 4 * k + 2, none⟩ = some (f k).2 ∧ W.cell? ⟨g, 4 * k + 3, none⟩ = some (.int .i64 (kRows[k]'(by rw [kRows_len]; exact hk)).2) ∧ SliceN W (f k).1 (kRows[k]'(by rw [kRows_len]; exact hk)).1.nodes ∧ SliceS W (f k).2 (kRows[k]'(by rw [kRows_len]; exact hk)).1.refs
theorem SliceN.belowW {w w' : World} {v : Value} {ns : List Nd} (h : SliceN w v ns) (hb : Below w.heap.size w w') : SliceN w' v ns := h.below hb
end Go.Proofs.YticfcjmlphhpgabGreatDoor
/-
  Known: its strings.
-/
namespace Go.Proofs.YticfcjmlphhpgabGreatDoor
open Go.RowKit Go.Maps

theorem strs_call (V : World) (ss : List ByteArray) (hl : ss.length ≤ 1000) (hs : ss.all (fun s => decide (s.size < 256)) = true) : Calls Tryz.prog 18 #[.slice (some ⟨V.heap.size, 0, none⟩) ss.length ss.length] (V.alloc (.cells (ss.map Value.string).toArray 9)) fun e w' => e = .returned (.string (strB ss)) ∧ Below V.heap.size V w' := by
  have hA := (Below.refl _ V).alloc (Nat.le_refl _) (.cells (ss.map Value.string).toArray 9)
  refine (strs_any _ ss _ (strs_new V ss) hl (fun s h => by simpa using List.all_eq_true.1 hs s h)).mono ?_
  rintro e w' ⟨rfl, h⟩
  exact ⟨rfl, hA.trans (h.mono hA.size)⟩
def kP : ByteArray := packB kL
def sP : ByteArray := strB [xE1, xPa, bM]
def sQ : ByteArray := strB [xRs, xRf, bM, xSm, sumO kOne, xPa, bB]
def sR : ByteArray := strB [xRs, xRf, bM, xSm, sumO kTwo, xEn]
def sM : ByteArray := strB [bM]
def sRs : ByteArray := strB [xRs]
def tE2 : ByteArray := strB [xE2]
def tE1 : ByteArray := strB [xE1]
def tM : ByteArray := strB [⟨#[77]⟩]
def t13 : ByteArray := strB [⟨#[49, 50, 51, 52, 53, 54, 55, 56, 57, 48, 49, 50, 51]⟩]
def tMn : ByteArray := strB [bM, ⟨#[110, 97, 114, 45, 50]⟩]
def tEn : ByteArray := strB [xEn]
def tRq : ByteArray := strB [xRf, ⟨#[113]⟩]
def tRR : ByteArray := strB [xRf, bM, xRf, bM]
def tS8 : ByteArray := strB [xSm, ⟨#[49, 50, 51, 52, 53, 54, 55, 56]⟩]
def tS1 : ByteArray := strB [xSm, sumO kOne]
def tS2 : ByteArray := strB [xSm, sumO kOne, xPa, bM]
def tS3 : ByteArray := strB [xSm, sumO kOne, xEn]
def uQ : ByteArray := strB [xE1, xPa, ⟨#[113]⟩]
def uR : ByteArray := strB [xRs, xSm, sumO kOne, xEn]
def uS : ByteArray := strB [xRs, xSm]
theorem c_sP (V : World) : Calls Tryz.prog 18 #[.slice (some ⟨V.heap.size, 0, none⟩) 3 3] (V.alloc (.cells #[.string ⟨#[101, 120, 112, 111, 114, 116, 45, 49]⟩, .string ⟨#[112, 97, 116, 104]⟩, .string ⟨#[109]⟩] 9)) fun e w' => e = .returned (.string sP) ∧ Below V.heap.size V w' := strs_call V [xE1, xPa, bM] (by decide) (by decide +kernel)
theorem c_sQ (V : World) : Calls Tryz.prog 18 #[.slice (some ⟨V.heap.size, 0, none⟩) 7 7] (V.alloc (.cells #[.string ⟨#[114, 101, 102, 115]⟩, .string ⟨#[114, 101, 102]⟩, .string ⟨#[109]⟩, .string ⟨#[115, 117, 109]⟩, .string (sumO kOne), .string ⟨#[112, 97, 116, 104]⟩, .string ⟨#[98]⟩] 9)) fun e w' => e = .returned (.string sQ) ∧ Below V.heap.size V w' := strs_call V [xRs, xRf, bM, xSm, sumO kOne, xPa, bB] (by decide) (by decide +kernel)
theorem c_sR (V : World) : Calls Tryz.prog 18 #[.slice (some ⟨V.heap.size, 0, none⟩) 6 6] (V.alloc (.cells #[.string ⟨#[114, 101, 102, 115]⟩, .string ⟨#[114, 101, 102]⟩, .string ⟨#[109]⟩, .string ⟨#[115, 117, 109]⟩, .string (sumO kTwo), .string ⟨#[101, 110, 100]⟩] 9)) fun e w' => e = .returned (.string sR) ∧ Below V.heap.size V w' := strs_call V [xRs, xRf, bM, xSm, sumO kTwo, xEn] (by decide) (by decide +kernel)
theorem c_sM (V : World) : Calls Tryz.prog 18 #[.slice (some ⟨V.heap.size, 0, none⟩) 1 1] (V.alloc (.cells #[.string ⟨#[109]⟩] 9)) fun e w' => e = .returned (.string sM) ∧ Below V.heap.size V w' := strs_call V [bM] (by decide) (by decide +kernel)
theorem c_sRs (V : World) : Calls Tryz.prog 18 #[.slice (some ⟨V.heap.size, 0, none⟩) 1 1] (V.alloc (.cells #[.string ⟨#[114, 101, 102, 115]⟩] 9)) fun e w' => e = .returned (.string sRs) ∧ Below V.heap.size V w' := strs_call V [xRs] (by decide) (by decide +kernel)
theorem c_tE2 (V : World) : Calls Tryz.prog 18 #[.slice (some ⟨V.heap.size, 0, none⟩) 1 1] (V.alloc (.cells #[.string ⟨#[101, 120, 112, 111, 114, 116, 45, 50]⟩] 9)) fun e w' => e = .returned (.string tE2) ∧ Below V.heap.size V w' := strs_call V [xE2] (by decide) (by decide +kernel)
theorem c_tE1 (V : World) : Calls Tryz.prog 18 #[.slice (some ⟨V.heap.size, 0, none⟩) 1 1] (V.alloc (.cells #[.string ⟨#[101, 120, 112, 111, 114, 116, 45, 49]⟩] 9)) fun e w' => e = .returned (.string tE1) ∧ Below V.heap.size V w' := strs_call V [xE1] (by decide) (by decide +kernel)
theorem c_tM (V : World) : Calls Tryz.prog 18 #[.slice (some ⟨V.heap.size, 0, none⟩) 1 1] (V.alloc (.cells #[.string ⟨#[77]⟩] 9)) fun e w' => e = .returned (.string tM) ∧ Below V.heap.size V w' := strs_call V [⟨#[77]⟩] (by decide) (by decide +kernel)
theorem c_t13 (V : World) : Calls Tryz.prog 18 #[.slice (some ⟨V.heap.size, 0, none⟩) 1 1] (V.alloc (.cells #[.string ⟨#[49, 50, 51, 52, 53, 54, 55, 56, 57, 48, 49, 50, 51]⟩] 9)) fun e w' => e = .returned (.string t13) ∧ Below V.heap.size V w' := strs_call V [⟨#[49, 50, 51, 52, 53, 54, 55, 56, 57, 48, 49, 50, 51]⟩] (by decide) (by decide +kernel)
theorem c_tMn (V : World) : Calls Tryz.prog 18 #[.slice (some ⟨V.heap.size, 0, none⟩) 2 2] (V.alloc (.cells #[.string ⟨#[109]⟩, .string ⟨#[110, 97, 114, 45, 50]⟩] 9)) fun e w' => e = .returned (.string tMn) ∧ Below V.heap.size V w' := strs_call V [bM, ⟨#[110, 97, 114, 45, 50]⟩] (by decide) (by decide +kernel)
theorem c_tEn (V : World) : Calls Tryz.prog 18 #[.slice (some ⟨V.heap.size, 0, none⟩) 1 1] (V.alloc (.cells #[.string ⟨#[101, 110, 100]⟩] 9)) fun e w' => e = .returned (.string tEn) ∧ Below V.heap.size V w' := strs_call V [xEn] (by decide) (by decide +kernel)
theorem c_tRq (V : World) : Calls Tryz.prog 18 #[.slice (some ⟨V.heap.size, 0, none⟩) 2 2] (V.alloc (.cells #[.string ⟨#[114, 101, 102]⟩, .string ⟨#[113]⟩] 9)) fun e w' => e = .returned (.string tRq) ∧ Below V.heap.size V w' := strs_call V [xRf, ⟨#[113]⟩] (by decide) (by decide +kernel)
theorem c_tRR (V : World) : Calls Tryz.prog 18 #[.slice (some ⟨V.heap.size, 0, none⟩) 4 4] (V.alloc (.cells #[.string ⟨#[114, 101, 102]⟩, .string ⟨#[109]⟩, .string ⟨#[114, 101, 102]⟩, .string ⟨#[109]⟩] 9)) fun e w' => e = .returned (.string tRR) ∧ Below V.heap.size V w' := strs_call V [xRf, bM, xRf, bM] (by decide) (by decide +kernel)
theorem c_tS8 (V : World) : Calls Tryz.prog 18 #[.slice (some ⟨V.heap.size, 0, none⟩) 2 2] (V.alloc (.cells #[.string ⟨#[115, 117, 109]⟩, .string ⟨#[49, 50, 51, 52, 53, 54, 55, 56]⟩] 9)) fun e w' => e = .returned (.string tS8) ∧ Below V.heap.size V w' := strs_call V [xSm, ⟨#[49, 50, 51, 52, 53, 54, 55, 56]⟩] (by decide) (by decide +kernel)
theorem c_tS1 (V : World) : Calls Tryz.prog 18 #[.slice (some ⟨V.heap.size, 0, none⟩) 2 2] (V.alloc (.cells #[.string ⟨#[115, 117, 109]⟩, .string (sumO kOne)] 9)) fun e w' => e = .returned (.string tS1) ∧ Below V.heap.size V w' := strs_call V [xSm, sumO kOne] (by decide) (by decide +kernel)
theorem c_tS2 (V : World) : Calls Tryz.prog 18 #[.slice (some ⟨V.heap.size, 0, none⟩) 4 4] (V.alloc (.cells #[.string ⟨#[115, 117, 109]⟩, .string (sumO kOne), .string ⟨#[112, 97, 116, 104]⟩, .string ⟨#[109]⟩] 9)) fun e w' => e = .returned (.string tS2) ∧ Below V.heap.size V w' := strs_call V [xSm, sumO kOne, xPa, bM] (by decide) (by decide +kernel)
theorem c_tS3 (V : World) : Calls Tryz.prog 18 #[.slice (some ⟨V.heap.size, 0, none⟩) 3 3] (V.alloc (.cells #[.string ⟨#[115, 117, 109]⟩, .string (sumO kOne), .string ⟨#[101, 110, 100]⟩] 9)) fun e w' => e = .returned (.string tS3) ∧ Below V.heap.size V w' := strs_call V [xSm, sumO kOne, xEn] (by decide) (by decide +kernel)
theorem c_uQ (V : World) : Calls Tryz.prog 18 #[.slice (some ⟨V.heap.size, 0, none⟩) 3 3] (V.alloc (.cells #[.string ⟨#[101, 120, 112, 111, 114, 116, 45, 49]⟩, .string ⟨#[112, 97, 116, 104]⟩, .string ⟨#[113]⟩] 9)) fun e w' => e = .returned (.string uQ) ∧ Below V.heap.size V w' := strs_call V [xE1, xPa, ⟨#[113]⟩] (by decide) (by decide +kernel)
theorem c_uR (V : World) : Calls Tryz.prog 18 #[.slice (some ⟨V.heap.size, 0, none⟩) 4 4] (V.alloc (.cells #[.string ⟨#[114, 101, 102, 115]⟩, .string ⟨#[115, 117, 109]⟩, .string (sumO kOne), .string ⟨#[101, 110, 100]⟩] 9)) fun e w' => e = .returned (.string uR) ∧ Below V.heap.size V w' := strs_call V [xRs, xSm, sumO kOne, xEn] (by decide) (by decide +kernel)
theorem c_uS (V : World) : Calls Tryz.prog 18 #[.slice (some ⟨V.heap.size, 0, none⟩) 2 2] (V.alloc (.cells #[.string ⟨#[114, 101, 102, 115]⟩, .string ⟨#[115, 117, 109]⟩] 9)) fun e w' => e = .returned (.string uS) ∧ Below V.heap.size V w' := strs_call V [xRs, xSm] (by decide) (by decide +kernel)
theorem c_kNone (V : World) : Calls Tryz.prog 18 #[.slice (some ⟨V.heap.size, 0, none⟩) 2 2] (V.alloc (.cells #[.string ⟨#[101, 120, 112, 111, 114, 116, 45, 49]⟩, .string ⟨#[101, 110, 100]⟩] 9)) fun e w' => e = .returned (.string kNone) ∧ Below V.heap.size V w' := strs_call V [xE1, xEn] (by decide) (by decide +kernel)
theorem c_kPath (V : World) : Calls Tryz.prog 18 #[.slice (some ⟨V.heap.size, 0, none⟩) 2 2] (V.alloc (.cells #[.string ⟨#[101, 120, 112, 111, 114, 116, 45, 49]⟩, .string ⟨#[112, 97, 116, 104]⟩] 9)) fun e w' => e = .returned (.string kPath) ∧ Below V.heap.size V w' := strs_call V [xE1, xPa] (by decide) (by decide +kernel)
theorem c_kP (V : World) : Calls Tryz.prog 18 #[.slice (some ⟨V.heap.size, 0, none⟩) 41 41] (V.alloc (.cells #[.string ⟨#[110, 97, 114, 45, 49]⟩, .string ⟨#[40]⟩, .string ⟨#[116, 121, 112, 101]⟩, .string ⟨#[100, 105, 114]⟩, .string ⟨#[101, 110, 116, 114, 121]⟩, .string ⟨#[40]⟩, .string ⟨#[110, 97, 109, 101]⟩, .string ⟨#[98]⟩, .string ⟨#[110, 111, 100, 101]⟩, .string ⟨#[40]⟩, .string ⟨#[116, 121, 112, 101]⟩, .string ⟨#[100, 105, 114]⟩, .string ⟨#[101, 110, 116, 114, 121]⟩, .string ⟨#[40]⟩, .string ⟨#[110, 97, 109, 101]⟩, .string ⟨#[120]⟩, .string ⟨#[110, 111, 100, 101]⟩, .string ⟨#[40]⟩, .string ⟨#[116, 121, 112, 101]⟩, .string ⟨#[102, 105, 108, 101]⟩, .string ⟨#[101, 120, 101, 99]⟩, .string ⟨#[]⟩, .string ⟨#[100, 97, 116, 97]⟩, .string ⟨#[114, 117, 110]⟩, .string ⟨#[41]⟩, .string ⟨#[41]⟩, .string ⟨#[41]⟩, .string ⟨#[41]⟩, .string ⟨#[101, 110, 116, 114, 121]⟩, .string ⟨#[40]⟩, .string ⟨#[110, 97, 109, 101]⟩, .string ⟨#[99]⟩, .string ⟨#[110, 111, 100, 101]⟩, .string ⟨#[40]⟩, .string ⟨#[116, 121, 112, 101]⟩, .string ⟨#[108, 105, 110, 107]⟩, .string ⟨#[116, 111]⟩, .string ⟨#[98, 47, 120]⟩, .string ⟨#[41]⟩, .string ⟨#[41]⟩, .string ⟨#[41]⟩] 9)) fun e w' => e = .returned (.string kP) ∧ Below V.heap.size V w' := by
  have h := strs_call V [⟨#[110, 97, 114, 45, 49]⟩, ⟨#[40]⟩, ⟨#[116, 121, 112, 101]⟩, ⟨#[100, 105, 114]⟩, ⟨#[101, 110, 116, 114, 121]⟩, ⟨#[40]⟩, ⟨#[110, 97, 109, 101]⟩, ⟨#[98]⟩, ⟨#[110, 111, 100, 101]⟩, ⟨#[40]⟩, ⟨#[116, 121, 112, 101]⟩, ⟨#[100, 105, 114]⟩, ⟨#[101, 110, 116, 114, 121]⟩, ⟨#[40]⟩, ⟨#[110, 97, 109, 101]⟩, ⟨#[120]⟩, ⟨#[110, 111, 100, 101]⟩, ⟨#[40]⟩, ⟨#[116, 121, 112, 101]⟩, ⟨#[102, 105, 108, 101]⟩, ⟨#[101, 120, 101, 99]⟩, ⟨#[]⟩, ⟨#[100, 97, 116, 97]⟩, ⟨#[114, 117, 110]⟩, ⟨#[41]⟩, ⟨#[41]⟩, ⟨#[41]⟩, ⟨#[41]⟩, ⟨#[101, 110, 116, 114, 121]⟩, ⟨#[40]⟩, ⟨#[110, 97, 109, 101]⟩, ⟨#[99]⟩, ⟨#[110, 111, 100, 101]⟩, ⟨#[40]⟩, ⟨#[116, 121, 112, 101]⟩, ⟨#[108, 105, 110, 107]⟩, ⟨#[116, 111]⟩, ⟨#[98, 47, 120]⟩, ⟨#[41]⟩, ⟨#[41]⟩, ⟨#[41]⟩] (by decide) (by decide +kernel)
  rw [← known_pack] at h
  exact h
end Go.Proofs.YticfcjmlphhpgabGreatDoor
/-
  Known: the table of what is inserted, laid.
-/
namespace Go.Proofs.YticfcjmlphhpgabGreatDoor
open Go.RowKit Go.Maps

set_option maxRecDepth 20000 in
set_option maxHeartbeats 2000000 in
/-- The table, as it is laid. -/
theorem tab_laid (w5 : World) : TabP ([.cells #[.string ⟨#[]⟩, .int .i64 1, .string ⟨#[]⟩] 43, .cells #[.string ⟨#[98]⟩, .string ⟨#[97]⟩] 9, .cells #[.string ⟨#[]⟩, .int .i64 1, .string ⟨#[]⟩] 43, .cells #[.string ⟨#[98]⟩, .string ⟨#[97]⟩] 9, .cells #[.string ⟨#[]⟩, .int .i64 1, .string ⟨#[]⟩] 43, .cells #[.string ⟨#[98]⟩, .string ⟨#[97]⟩] 9, .cells #[.string ⟨#[]⟩, .int .i64 1, .string ⟨#[]⟩] 43, .cells #[.string ⟨#[97]⟩, .string ⟨#[97]⟩] 9, .cells #[.string ⟨#[]⟩, .int .i64 1, .string ⟨#[]⟩] 43, .cells #[.string ⟨#[98]⟩] 9, .cells #[.string ⟨#[]⟩, .int .i64 1, .string ⟨#[109]⟩] 43, .cells #[.string ⟨#[109]⟩] 9, .cells #[.string ⟨#[]⟩, .int .i64 1, .string ⟨#[109]⟩] 43, .cells #[.string ⟨#[109]⟩] 9, .cells #[.string ⟨#[]⟩, .int .i64 1, .string ⟨#[110]⟩] 43, .cells #[.string ⟨#[109]⟩] 9, .cells #[.string ⟨#[]⟩, .int .i64 1, .string ⟨#[109]⟩] 43, .cells #[.string ⟨#[]⟩, .int .i64 1, .string ⟨#[110]⟩] 43, .cells #[.string ⟨#[120]⟩] 9, .cells #[.string ⟨#[]⟩, .int .i64 1, .string ⟨#[122]⟩] 43, .cells #[.string ⟨#[109]⟩] 9, .cells #[.string ⟨#[]⟩, .int .i64 1, .string ⟨#[98]⟩] 43, .cells #[.string ⟨#[109]⟩] 9, .cells #[.string ⟨#[]⟩, .int .i64 1, .string ⟨#[97]⟩] 43, .cells #[.string ⟨#[98]⟩, .string ⟨#[122]⟩] 9, .cells #[.string ⟨#[]⟩, .slice (some ⟨w5.heap.size + 0, 0, none⟩) 1 1, .slice none 0 0, .int .i64 11, .string ⟨#[65]⟩, .slice none 0 0, .slice (some ⟨w5.heap.size + 1, 0, none⟩) 2 2, .int .i64 11, .string ⟨#[49, 50, 51, 52, 53, 54, 55, 56, 57, 48, 49, 50, 51]⟩, .slice (some ⟨w5.heap.size + 2, 0, none⟩) 1 1, .slice none 0 0, .int .i64 11, .string ⟨#[97]⟩, .slice none 0 0, .slice (some ⟨w5.heap.size + 3, 0, none⟩) 2 2, .int .i64 1, .string ⟨#[97]⟩, .slice (some ⟨w5.heap.size + 4, 0, none⟩) 1 1, .slice (some ⟨w5.heap.size + 5, 0, none⟩) 2 2, .int .i64 7, .string ⟨#[97]⟩, .slice (some ⟨w5.heap.size + 6, 0, none⟩) 1 1, .slice (some ⟨w5.heap.size + 7, 0, none⟩) 2 2, .int .i64 7, .string ⟨#[97]⟩, .slice (some ⟨w5.heap.size + 8, 0, none⟩) 1 1, .slice (some ⟨w5.heap.size + 9, 0, none⟩) 1 1, .int .i64 13, .string ⟨#[109]⟩, .slice (some ⟨w5.heap.size + 10, 0, none⟩) 1 1, .slice (some ⟨w5.heap.size + 11, 0, none⟩) 1 1, .int .i64 0, .string ⟨#[109]⟩, .slice (some ⟨w5.heap.size + 12, 0, none⟩) 1 1, .slice (some ⟨w5.heap.size + 13, 0, none⟩) 1 1, .int .i64 0, .string ⟨#[109]⟩, .slice (some ⟨w5.heap.size + 14, 0, none⟩) 1 1, .slice (some ⟨w5.heap.size + 15, 0, none⟩) 1 1, .int .i64 12, .string ⟨#[109]⟩, .slice (some ⟨w5.heap.size + 16, 0, none⟩) 1 1, .slice none 0 0, .int .i64 12, .string ⟨#[109]⟩, .slice (some ⟨w5.heap.size + 17, 0, none⟩) 1 1, .slice (some ⟨w5.heap.size + 18, 0, none⟩) 1 1, .int .i64 13, .string ⟨#[122]⟩, .slice (some ⟨w5.heap.size + 19, 0, none⟩) 1 1, .slice (some ⟨w5.heap.size + 20, 0, none⟩) 1 1, .int .i64 0, .string ⟨#[98]⟩, .slice (some ⟨w5.heap.size + 21, 0, none⟩) 1 1, .slice (some ⟨w5.heap.size + 22, 0, none⟩) 1 1, .int .i64 0, .string ⟨#[97]⟩, .slice (some ⟨w5.heap.size + 23, 0, none⟩) 1 1, .slice (some ⟨w5.heap.size + 24, 0, none⟩) 2 2, .int .i64 0] 54].foldl World.alloc w5) (w5.heap.size + 25) := by
  have hb : ∀ (j : Nat) (o : Obj), ([.cells #[.string ⟨#[]⟩, .int .i64 1, .string ⟨#[]⟩] 43, .cells #[.string ⟨#[98]⟩, .string ⟨#[97]⟩] 9, .cells #[.string ⟨#[]⟩, .int .i64 1, .string ⟨#[]⟩] 43, .cells #[.string ⟨#[98]⟩, .string ⟨#[97]⟩] 9, .cells #[.string ⟨#[]⟩, .int .i64 1, .string ⟨#[]⟩] 43, .cells #[.string ⟨#[98]⟩, .string ⟨#[97]⟩] 9, .cells #[.string ⟨#[]⟩, .int .i64 1, .string ⟨#[]⟩] 43, .cells #[.string ⟨#[97]⟩, .string ⟨#[97]⟩] 9, .cells #[.string ⟨#[]⟩, .int .i64 1, .string ⟨#[]⟩] 43, .cells #[.string ⟨#[98]⟩] 9, .cells #[.string ⟨#[]⟩, .int .i64 1, .string ⟨#[109]⟩] 43, .cells #[.string ⟨#[109]⟩] 9, .cells #[.string ⟨#[]⟩, .int .i64 1, .string ⟨#[109]⟩] 43, .cells #[.string ⟨#[109]⟩] 9, .cells #[.string ⟨#[]⟩, .int .i64 1, .string ⟨#[110]⟩] 43, .cells #[.string ⟨#[109]⟩] 9, .cells #[.string ⟨#[]⟩, .int .i64 1, .string ⟨#[109]⟩] 43, .cells #[.string ⟨#[]⟩, .int .i64 1, .string ⟨#[110]⟩] 43, .cells #[.string ⟨#[120]⟩] 9, .cells #[.string ⟨#[]⟩, .int .i64 1, .string ⟨#[122]⟩] 43, .cells #[.string ⟨#[109]⟩] 9, .cells #[.string ⟨#[]⟩, .int .i64 1, .string ⟨#[98]⟩] 43, .cells #[.string ⟨#[109]⟩] 9, .cells #[.string ⟨#[]⟩, .int .i64 1, .string ⟨#[97]⟩] 43, .cells #[.string ⟨#[98]⟩, .string ⟨#[122]⟩] 9, .cells #[.string ⟨#[]⟩, .slice (some ⟨w5.heap.size + 0, 0, none⟩) 1 1, .slice none 0 0, .int .i64 11, .string ⟨#[65]⟩, .slice none 0 0, .slice (some ⟨w5.heap.size + 1, 0, none⟩) 2 2, .int .i64 11, .string ⟨#[49, 50, 51, 52, 53, 54, 55, 56, 57, 48, 49, 50, 51]⟩, .slice (some ⟨w5.heap.size + 2, 0, none⟩) 1 1, .slice none 0 0, .int .i64 11, .string ⟨#[97]⟩, .slice none 0 0, .slice (some ⟨w5.heap.size + 3, 0, none⟩) 2 2, .int .i64 1, .string ⟨#[97]⟩, .slice (some ⟨w5.heap.size + 4, 0, none⟩) 1 1, .slice (some ⟨w5.heap.size + 5, 0, none⟩) 2 2, .int .i64 7, .string ⟨#[97]⟩, .slice (some ⟨w5.heap.size + 6, 0, none⟩) 1 1, .slice (some ⟨w5.heap.size + 7, 0, none⟩) 2 2, .int .i64 7, .string ⟨#[97]⟩, .slice (some ⟨w5.heap.size + 8, 0, none⟩) 1 1, .slice (some ⟨w5.heap.size + 9, 0, none⟩) 1 1, .int .i64 13, .string ⟨#[109]⟩, .slice (some ⟨w5.heap.size + 10, 0, none⟩) 1 1, .slice (some ⟨w5.heap.size + 11, 0, none⟩) 1 1, .int .i64 0, .string ⟨#[109]⟩, .slice (some ⟨w5.heap.size + 12, 0, none⟩) 1 1, .slice (some ⟨w5.heap.size + 13, 0, none⟩) 1 1, .int .i64 0, .string ⟨#[109]⟩, .slice (some ⟨w5.heap.size + 14, 0, none⟩) 1 1, .slice (some ⟨w5.heap.size + 15, 0, none⟩) 1 1, .int .i64 12, .string ⟨#[109]⟩, .slice (some ⟨w5.heap.size + 16, 0, none⟩) 1 1, .slice none 0 0, .int .i64 12, .string ⟨#[109]⟩, .slice (some ⟨w5.heap.size + 17, 0, none⟩) 1 1, .slice (some ⟨w5.heap.size + 18, 0, none⟩) 1 1, .int .i64 13, .string ⟨#[122]⟩, .slice (some ⟨w5.heap.size + 19, 0, none⟩) 1 1, .slice (some ⟨w5.heap.size + 20, 0, none⟩) 1 1, .int .i64 0, .string ⟨#[98]⟩, .slice (some ⟨w5.heap.size + 21, 0, none⟩) 1 1, .slice (some ⟨w5.heap.size + 22, 0, none⟩) 1 1, .int .i64 0, .string ⟨#[97]⟩, .slice (some ⟨w5.heap.size + 23, 0, none⟩) 1 1, .slice (some ⟨w5.heap.size + 24, 0, none⟩) 2 2, .int .i64 0] 54] : List Obj)[j]? = some o → ([.cells #[.string ⟨#[]⟩, .int .i64 1, .string ⟨#[]⟩] 43, .cells #[.string ⟨#[98]⟩, .string ⟨#[97]⟩] 9, .cells #[.string ⟨#[]⟩, .int .i64 1, .string ⟨#[]⟩] 43, .cells #[.string ⟨#[98]⟩, .string ⟨#[97]⟩] 9, .cells #[.string ⟨#[]⟩, .int .i64 1, .string ⟨#[]⟩] 43, .cells #[.string ⟨#[98]⟩, .string ⟨#[97]⟩] 9, .cells #[.string ⟨#[]⟩, .int .i64 1, .string ⟨#[]⟩] 43, .cells #[.string ⟨#[97]⟩, .string ⟨#[97]⟩] 9, .cells #[.string ⟨#[]⟩, .int .i64 1, .string ⟨#[]⟩] 43, .cells #[.string ⟨#[98]⟩] 9, .cells #[.string ⟨#[]⟩, .int .i64 1, .string ⟨#[109]⟩] 43, .cells #[.string ⟨#[109]⟩] 9, .cells #[.string ⟨#[]⟩, .int .i64 1, .string ⟨#[109]⟩] 43, .cells #[.string ⟨#[109]⟩] 9, .cells #[.string ⟨#[]⟩, .int .i64 1, .string ⟨#[110]⟩] 43, .cells #[.string ⟨#[109]⟩] 9, .cells #[.string ⟨#[]⟩, .int .i64 1, .string ⟨#[109]⟩] 43, .cells #[.string ⟨#[]⟩, .int .i64 1, .string ⟨#[110]⟩] 43, .cells #[.string ⟨#[120]⟩] 9, .cells #[.string ⟨#[]⟩, .int .i64 1, .string ⟨#[122]⟩] 43, .cells #[.string ⟨#[109]⟩] 9, .cells #[.string ⟨#[]⟩, .int .i64 1, .string ⟨#[98]⟩] 43, .cells #[.string ⟨#[109]⟩] 9, .cells #[.string ⟨#[]⟩, .int .i64 1, .string ⟨#[97]⟩] 43, .cells #[.string ⟨#[98]⟩, .string ⟨#[122]⟩] 9, .cells #[.string ⟨#[]⟩, .slice (some ⟨w5.heap.size + 0, 0, none⟩) 1 1, .slice none 0 0, .int .i64 11, .string ⟨#[65]⟩, .slice none 0 0, .slice (some ⟨w5.heap.size + 1, 0, none⟩) 2 2, .int .i64 11, .string ⟨#[49, 50, 51, 52, 53, 54, 55, 56, 57, 48, 49, 50, 51]⟩, .slice (some ⟨w5.heap.size + 2, 0, none⟩) 1 1, .slice none 0 0, .int .i64 11, .string ⟨#[97]⟩, .slice none 0 0, .slice (some ⟨w5.heap.size + 3, 0, none⟩) 2 2, .int .i64 1, .string ⟨#[97]⟩, .slice (some ⟨w5.heap.size + 4, 0, none⟩) 1 1, .slice (some ⟨w5.heap.size + 5, 0, none⟩) 2 2, .int .i64 7, .string ⟨#[97]⟩, .slice (some ⟨w5.heap.size + 6, 0, none⟩) 1 1, .slice (some ⟨w5.heap.size + 7, 0, none⟩) 2 2, .int .i64 7, .string ⟨#[97]⟩, .slice (some ⟨w5.heap.size + 8, 0, none⟩) 1 1, .slice (some ⟨w5.heap.size + 9, 0, none⟩) 1 1, .int .i64 13, .string ⟨#[109]⟩, .slice (some ⟨w5.heap.size + 10, 0, none⟩) 1 1, .slice (some ⟨w5.heap.size + 11, 0, none⟩) 1 1, .int .i64 0, .string ⟨#[109]⟩, .slice (some ⟨w5.heap.size + 12, 0, none⟩) 1 1, .slice (some ⟨w5.heap.size + 13, 0, none⟩) 1 1, .int .i64 0, .string ⟨#[109]⟩, .slice (some ⟨w5.heap.size + 14, 0, none⟩) 1 1, .slice (some ⟨w5.heap.size + 15, 0, none⟩) 1 1, .int .i64 12, .string ⟨#[109]⟩, .slice (some ⟨w5.heap.size + 16, 0, none⟩) 1 1, .slice none 0 0, .int .i64 12, .string ⟨#[109]⟩, .slice (some ⟨w5.heap.size + 17, 0, none⟩) 1 1, .slice (some ⟨w5.heap.size + 18, 0, none⟩) 1 1, .int .i64 13, .string ⟨#[122]⟩, .slice (some ⟨w5.heap.size + 19, 0, none⟩) 1 1, .slice (some ⟨w5.heap.size + 20, 0, none⟩) 1 1, .int .i64 0, .string ⟨#[98]⟩, .slice (some ⟨w5.heap.size + 21, 0, none⟩) 1 1, .slice (some ⟨w5.heap.size + 22, 0, none⟩) 1 1, .int .i64 0, .string ⟨#[97]⟩, .slice (some ⟨w5.heap.size + 23, 0, none⟩) 1 1, .slice (some ⟨w5.heap.size + 24, 0, none⟩) 2 2, .int .i64 0] 54].foldl World.alloc w5).heap[w5.heap.size + j]? = some o := fun j o h => (blocks_at w5 _ j).1.trans h
  have hT := hb 25 _ rfl
  refine ⟨fun k => ([(.slice (some ⟨w5.heap.size + 0, 0, none⟩) 1 1, .slice none 0 0), (.slice none 0 0, .slice (some ⟨w5.heap.size + 1, 0, none⟩) 2 2), (.slice (some ⟨w5.heap.size + 2, 0, none⟩) 1 1, .slice none 0 0), (.slice none 0 0, .slice (some ⟨w5.heap.size + 3, 0, none⟩) 2 2), (.slice (some ⟨w5.heap.size + 4, 0, none⟩) 1 1, .slice (some ⟨w5.heap.size + 5, 0, none⟩) 2 2), (.slice (some ⟨w5.heap.size + 6, 0, none⟩) 1 1, .slice (some ⟨w5.heap.size + 7, 0, none⟩) 2 2), (.slice (some ⟨w5.heap.size + 8, 0, none⟩) 1 1, .slice (some ⟨w5.heap.size + 9, 0, none⟩) 1 1), (.slice (some ⟨w5.heap.size + 10, 0, none⟩) 1 1, .slice (some ⟨w5.heap.size + 11, 0, none⟩) 1 1), (.slice (some ⟨w5.heap.size + 12, 0, none⟩) 1 1, .slice (some ⟨w5.heap.size + 13, 0, none⟩) 1 1), (.slice (some ⟨w5.heap.size + 14, 0, none⟩) 1 1, .slice (some ⟨w5.heap.size + 15, 0, none⟩) 1 1), (.slice (some ⟨w5.heap.size + 16, 0, none⟩) 1 1, .slice none 0 0), (.slice (some ⟨w5.heap.size + 17, 0, none⟩) 1 1, .slice (some ⟨w5.heap.size + 18, 0, none⟩) 1 1), (.slice (some ⟨w5.heap.size + 19, 0, none⟩) 1 1, .slice (some ⟨w5.heap.size + 20, 0, none⟩) 1 1), (.slice (some ⟨w5.heap.size + 21, 0, none⟩) 1 1, .slice (some ⟨w5.heap.size + 22, 0, none⟩) 1 1), (.slice (some ⟨w5.heap.size + 23, 0, none⟩) 1 1, .slice (some ⟨w5.heap.size + 24, 0, none⟩) 2 2)] : List (Value × Value)).getD k (.slice none 0 0, .slice none 0 0), fun k hk => ?_⟩
  match k, hk with
  | 0, _ => exact ⟨(blk_cell hT).trans rfl, (blk_cell hT).trans rfl, (blk_cell hT).trans rfl, (blk_cell hT).trans rfl, leaf_blk ⟨#[]⟩ (hb 0 _ rfl), strs_nil _⟩
  | 1, _ => exact ⟨(blk_cell hT).trans rfl, (blk_cell hT).trans rfl, (blk_cell hT).trans rfl, (blk_cell hT).trans rfl, nodes_nil _, strs_blk [⟨#[98]⟩, ⟨#[97]⟩] (hb 1 _ rfl)⟩
  | 2, _ => exact ⟨(blk_cell hT).trans rfl, (blk_cell hT).trans rfl, (blk_cell hT).trans rfl, (blk_cell hT).trans rfl, leaf_blk ⟨#[]⟩ (hb 2 _ rfl), strs_nil _⟩
  | 3, _ => exact ⟨(blk_cell hT).trans rfl, (blk_cell hT).trans rfl, (blk_cell hT).trans rfl, (blk_cell hT).trans rfl, nodes_nil _, strs_blk [⟨#[98]⟩, ⟨#[97]⟩] (hb 3 _ rfl)⟩
  | 4, _ => exact ⟨(blk_cell hT).trans rfl, (blk_cell hT).trans rfl, (blk_cell hT).trans rfl, (blk_cell hT).trans rfl, leaf_blk ⟨#[]⟩ (hb 4 _ rfl), strs_blk [⟨#[98]⟩, ⟨#[97]⟩] (hb 5 _ rfl)⟩
  | 5, _ => exact ⟨(blk_cell hT).trans rfl, (blk_cell hT).trans rfl, (blk_cell hT).trans rfl, (blk_cell hT).trans rfl, leaf_blk ⟨#[]⟩ (hb 6 _ rfl), strs_blk [⟨#[97]⟩, ⟨#[97]⟩] (hb 7 _ rfl)⟩
  | 6, _ => exact ⟨(blk_cell hT).trans rfl, (blk_cell hT).trans rfl, (blk_cell hT).trans rfl, (blk_cell hT).trans rfl, leaf_blk ⟨#[]⟩ (hb 8 _ rfl), strs_blk [⟨#[98]⟩] (hb 9 _ rfl)⟩
  | 7, _ => exact ⟨(blk_cell hT).trans rfl, (blk_cell hT).trans rfl, (blk_cell hT).trans rfl, (blk_cell hT).trans rfl, leaf_blk ⟨#[109]⟩ (hb 10 _ rfl), strs_blk [⟨#[109]⟩] (hb 11 _ rfl)⟩
  | 8, _ => exact ⟨(blk_cell hT).trans rfl, (blk_cell hT).trans rfl, (blk_cell hT).trans rfl, (blk_cell hT).trans rfl, leaf_blk ⟨#[109]⟩ (hb 12 _ rfl), strs_blk [⟨#[109]⟩] (hb 13 _ rfl)⟩
  | 9, _ => exact ⟨(blk_cell hT).trans rfl, (blk_cell hT).trans rfl, (blk_cell hT).trans rfl, (blk_cell hT).trans rfl, leaf_blk ⟨#[110]⟩ (hb 14 _ rfl), strs_blk [⟨#[109]⟩] (hb 15 _ rfl)⟩
  | 10, _ => exact ⟨(blk_cell hT).trans rfl, (blk_cell hT).trans rfl, (blk_cell hT).trans rfl, (blk_cell hT).trans rfl, leaf_blk ⟨#[109]⟩ (hb 16 _ rfl), strs_nil _⟩
  | 11, _ => exact ⟨(blk_cell hT).trans rfl, (blk_cell hT).trans rfl, (blk_cell hT).trans rfl, (blk_cell hT).trans rfl, leaf_blk ⟨#[110]⟩ (hb 17 _ rfl), strs_blk [⟨#[120]⟩] (hb 18 _ rfl)⟩
  | 12, _ => exact ⟨(blk_cell hT).trans rfl, (blk_cell hT).trans rfl, (blk_cell hT).trans rfl, (blk_cell hT).trans rfl, leaf_blk ⟨#[122]⟩ (hb 19 _ rfl), strs_blk [⟨#[109]⟩] (hb 20 _ rfl)⟩
  | 13, _ => exact ⟨(blk_cell hT).trans rfl, (blk_cell hT).trans rfl, (blk_cell hT).trans rfl, (blk_cell hT).trans rfl, leaf_blk ⟨#[98]⟩ (hb 21 _ rfl), strs_blk [⟨#[109]⟩] (hb 22 _ rfl)⟩
  | 14, _ => exact ⟨(blk_cell hT).trans rfl, (blk_cell hT).trans rfl, (blk_cell hT).trans rfl, (blk_cell hT).trans rfl, leaf_blk ⟨#[97]⟩ (hb 23 _ rfl), strs_blk [⟨#[98]⟩, ⟨#[122]⟩] (hb 24 _ rfl)⟩
end Go.Proofs.YticfcjmlphhpgabGreatDoor
/-
  Known: the store on the way.
-/
namespace Go.Proofs.YticfcjmlphhpgabGreatDoor
open Go.RowKit Go.Maps

/-- The region that a piece of code begins with. -/
def firstR : Code → Option Nat
  | .region m _ _ => some m
  | .seq a _ => firstR a
  | _ => none
/-- A sequence, from a region on. -/
def fromO (n : Nat) : Code → Option Code
  | .seq a b => if firstR a == some n then some (.seq a b) else match fromO n a with
    | some c => some c
    | none => fromO n b
  | .block _ c => fromO n c
  | .scope c => fromO n c
  | .loop c => fromO n c
  | .cond _ a b => match fromO n a with
    | some c => some c
    | none => fromO n b
  | _ => none
noncomputable def fromC (f : Func) (n : Nat) : Code := ((f.body.bind (fromO n)).getD .skip)
/-- The store on the way. -/
structure KP (w0 w : World) (q b : Nat) (S : List Ent) : Prop where
  st : NStF (fun _ => True) w q b S
  qb : q ≠ b
  base : w0.heap.size ≤ b
  bel : Below w0.heap.size w0 w
  tab : Lib.Utf8Tabs 0 1 w0
section
variable {w0 w w' : World} {q b : Nat} {S : List Ent}
theorem KP.keep (h : KP w0 w q b S) (hb : Below w.heap.size w w') : KP w0 w' q b S :=
  ⟨⟨(hb.block _ (lt_of_block h.st.1)).trans h.st.1, h.st.2.below hb⟩, h.qb, h.base, h.bel.trans (hb.mono h.bel.size), h.tab⟩
theorem KP.alloc (h : KP w0 w q b S) (o : Obj) : KP w0 (w.alloc o) q b S := h.keep ((Below.refl _ w).alloc (Nat.le_refl _) o)
theorem KP.tabs (h : KP w0 w q b S) : Lib.Utf8Tabs 0 1 w := tabsB (tabs2 h.tab) h.tab h.bel
theorem KP.nst (h : KP w0 w q b S) : NSt w q b S := ⟨h.st.1, h.st.2.st⟩
theorem KP.insert (h : KP w0 w q b S) (x : Ent) {vn vr : Value} (hn : SliceN w vn x.nodes) (hsm : Small x.nodes) (hr : SliceS w vr x.refs) (hx : x.refs.length ≤ 1000 ∧ x.path.size ≤ 1000 ∧ ∀ r ∈ x.refs, r.size ≤ 1000) (hS : ∀ e ∈ S, e.refs.length ≤ 1000) :
    Calls Tryz.prog 14 #[.pointer (some ⟨q, 0, none⟩), .string x.path, vn, vr] w fun e w' => e = .returned (.int .i64 (insertF S x).1) ∧ KP w0 w' q b (insertF S x).2 := by
  refine (narInsertF_any (fun _ => True) q b S x vn vr w h.st (fun _ _ => trivial) h.tabs hn hsm hr (by have := hx.1; omega) (fun r hr => by have := hx.2.2 r hr; omega) (fun e he => by have := hS e he; omega) (by have := hx.2.1; omega)).mono ?_
  rintro e w' ⟨rfl, h1, h2⟩
  exact ⟨rfl, h1, h.qb, h.base, h.bel.trans (h2.2 _ h.base), h.tab⟩
theorem KP.import (h : KP w0 w q b S) {vp : Value} {ps : List ByteArray} (hp : SliceS w vp ps) (hl : ps.length ≤ 1000) (htot : (joinB ps).length ≤ 1000000) (hS : ∀ e ∈ S, e.refs.length ≤ 1000) (h10 : S.length ≤ 10) :
    Calls Tryz.prog 11 #[.pointer (some ⟨q, 0, none⟩), vp] w fun e w' => ∃ a c, e = .returned (.tuple #[.slice a (importF S (joinB ps)).1.1.length c, .int .i64 (importF S (joinB ps)).1.2.1, .int .i64 ((importF S (joinB ps)).1.2.2 : Nat)]) ∧ KP w0 w' q b (importF S (joinB ps)).2 := by
  refine (imp_any (w0 := w0) h.base h.qb h.st h.tabs hp (by omega) (by omega) (fun e he => by have := hS e he; omega) h10 rfl).mono ?_
  rintro e w' ⟨a, c, rfl, _, h2, h3⟩
  exact ⟨a, c, rfl, h2, h.qb, h.base, h.bel.trans h3, h.tab⟩
end
def few (S : List Ent) : Bool := S.all fun e => decide (e.refs.length ≤ 1000)
theorem few_of {S : List Ent} (h : few S = true) : ∀ e ∈ S, e.refs.length ≤ 1000 := fun e he => by simpa using List.all_eq_true.1 h e he
theorem kSt_few : ∀ k : Fin 16, few (kSt k.val) = true := by decide +kernel
theorem kMore_few : ∀ k : Fin 7, few (kMore k.val) = true := by decide +kernel
theorem kT_len : kT.length ≤ 10 := by decide +kernel
theorem kMore_succ (k : Nat) : kMore (k + 1) = (insertF (kMore k) ⟨kN k, leafN ⟨#[]⟩, []⟩).2 := by
  unfold kMore
  rw [List.range_succ, List.foldl_append]
  rfl
theorem kSt_succ (k : Nat) (hk : k < 15) : kSt (k + 1) = (insertF (kSt k) (kRows[k]'(by rw [kRows_len]; exact hk)).1).2 := by
  unfold kSt
  rw [List.take_succ_eq_append_getElem (by rw [kRows_len]; exact hk), List.foldl_append]
  rfl
theorem kRows_small : ∀ k : Fin 15, (((kRows[k.val]'(by rw [kRows_len]; exact k.isLt)).1.refs.all fun r => decide (r.size ≤ 1000)) && decide ((kRows[k.val]'(by rw [kRows_len]; exact k.isLt)).1.path.size ≤ 1000) && decide ((kRows[k.val]'(by rw [kRows_len]; exact k.isLt)).1.refs.length ≤ 1000) && ((kRows[k.val]'(by rw [kRows_len]; exact k.isLt)).1.nodes.all fun n => decide (n.path.size ≤ 1000000) && decide (n.data.size ≤ 1000000)) && decide ((kRows[k.val]'(by rw [kRows_len]; exact k.isLt)).1.nodes.length ≤ 1000000)) = true := by decide +kernel
theorem kOne_size : kOne.size = 112 := by decide +kernel
theorem kTwo_size : kTwo.size = 112 := by decide +kernel
end Go.Proofs.YticfcjmlphhpgabGreatDoor
