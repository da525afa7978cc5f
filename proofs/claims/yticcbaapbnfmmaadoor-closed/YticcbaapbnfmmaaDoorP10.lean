import Derived.Test.YticcbaapbnfmmaaDoorP09
import Derived.WalkKit
import Derived.WalkSpells
import Derived.WalkLawsBesides
import Derived.Laws.IdiomStrings
import Derived.Lib.AppendStr
import Derived.Lib.OthersKept
import Derived.Deep.QuietTactic
import Derived.BigQuiet
import Derived.Deep.RegionWith
namespace Go.Proofs.YticcbaapbnfmmaaDoor
open Go.RowKit
namespace HP
def par (i : Nat) : Nat := (i - 1) / 2
def swp (f : Nat → Nat) (i k : Nat) : Nat → Nat := fun x => if x = i then f k else if x = k then f i else f x
theorem swp_l (f : Nat → Nat) (i k : Nat) : swp f i k i = f k := by simp [swp]
theorem swp_r (f : Nat → Nat) (i k : Nat) : swp f i k k = f i := by unfold swp; split <;> simp_all
theorem swp_o (f : Nat → Nat) {i k x : Nat} (h1 : x ≠ i) (h2 : x ≠ k) : swp f i k x = f x := by simp [swp, h1, h2]
/-- An order by keys. -/
structure Or (lt : Nat → Nat → Bool) : Prop where
  tr : ∀ a b c, lt b a = false → lt c b = false → lt c a = false
  asy : ∀ a b, lt a b = true → lt b a = false
theorem Or.ir {lt : Nat → Nat → Bool} (h : Or lt) (a : Nat) : lt a a = false := by
  cases e : lt a a with
  | false => rfl
  | true => exact e.symm.trans (h.asy a a e)
def IsHeap (lt : Nat → Nat → Bool) (f : Nat → Nat) (n : Nat) : Prop := ∀ i, 0 < i → i < n → lt (f i) (f (par i)) = false
structure UpI (lt : Nat → Nat → Bool) (f : Nat → Nat) (n j : Nat) : Prop where
  a : ∀ i, 0 < i → i < n → i ≠ j → lt (f i) (f (par i)) = false
  b : ∀ i, 0 < i → i < n → par i = j → 0 < j → lt (f i) (f (par j)) = false
structure DownI (lt : Nat → Nat → Bool) (f : Nat → Nat) (n j : Nat) : Prop where
  a : ∀ i, 0 < i → i < n → par i ≠ j → lt (f i) (f (par i)) = false
  b : ∀ i, 0 < i → i < n → par i = j → 0 < j → lt (f i) (f (par j)) = false
theorem par_lt {i : Nat} (h : 0 < i) : par i < i := by unfold par; omega
theorem UpI.end0 {lt : Nat → Nat → Bool} {f : Nat → Nat} {n : Nat} (h : UpI lt f n 0) : IsHeap lt f n := fun i h0 hn => h.a i h0 hn (by omega)
theorem UpI.stop {lt : Nat → Nat → Bool} {f : Nat → Nat} {n j : Nat} (h : UpI lt f n j) (hj : lt (f j) (f (par j)) = false) : IsHeap lt f n := fun i h0 hn => by
  by_cases e : i = j
  · rw [e]; exact hj
  · exact h.a i h0 hn e
theorem UpI.step {lt : Nat → Nat → Bool} (o : Or lt) {f : Nat → Nat} {n j : Nat} (h : UpI lt f n j) (h0 : 0 < j) (hn : j < n) (hj : lt (f j) (f (par j)) = true) : UpI lt (swp f (par j) j) n (par j) := by
  have hpj := par_lt h0
  have has := o.asy _ _ hj
  refine ⟨fun i hi0 hin hip => ?_, fun i hi0 hin hpi hp0 => ?_⟩
  · by_cases e : i = j
    · subst e; rw [swp_r, swp_l]; exact has
    · rw [swp_o f hip e]
      by_cases e1 : par i = par j
      · rw [e1, swp_l]
        have := h.a i hi0 hin e
        rw [e1] at this
        exact o.tr _ _ _ has this
      · by_cases e2 : par i = j
        · rw [e2, swp_r]; exact h.b i hi0 hin e2 h0
        · rw [swp_o f e1 e2]; exact h.a i hi0 hin e
  · have hpp := par_lt hp0
    have hii := par_lt hi0
    rw [swp_o f (x := par (par j)) (by omega) (by omega)]
    have hp := h.a (par j) hp0 (by omega) (by omega)
    by_cases e : i = j
    · subst e; rw [swp_r]; exact hp
    · rw [swp_o f (by omega) e]
      have := h.a i hi0 hin e
      rw [hpi] at this
      exact o.tr _ _ _ hp this
theorem DownI.done {lt : Nat → Nat → Bool} {f : Nat → Nat} {n i : Nat} (h : DownI lt f n i) (hi : n ≤ 2 * i + 1) : IsHeap lt f n := fun c h0 hn => h.a c h0 hn (by unfold par; omega)
theorem DownI.stop {lt : Nat → Nat → Bool} (o : Or lt) {f : Nat → Nat} {n i j : Nat} (h : DownI lt f n i) (hl : ∀ c, 0 < c → c < n → par c = i → lt (f c) (f j) = false) (hj : lt (f j) (f i) = false) : IsHeap lt f n := fun c h0 hn => by
  by_cases e : par c = i
  · rw [e]; exact o.tr _ _ _ hj (hl c h0 hn e)
  · exact h.a c h0 hn e
theorem DownI.step {lt : Nat → Nat → Bool} (o : Or lt) {f : Nat → Nat} {n i j : Nat} (h : DownI lt f n i) (hj0 : 0 < j) (hjn : j < n) (hpj : par j = i) (hl : ∀ c, 0 < c → c < n → par c = i → lt (f c) (f j) = false) (hj : lt (f j) (f i) = true) : DownI lt (swp f i j) n j := by
  have has := o.asy _ _ hj
  have hij : i < j := by rw [← hpj]; exact par_lt hj0
  refine ⟨fun c h0 hn hc => ?_, fun c h0 hn hc _ => ?_⟩
  · by_cases e : c = j
    · subst e; rw [swp_r, hpj, swp_l]; exact has
    · by_cases e1 : par c = i
      · have : c ≠ i := by have := par_lt h0; omega
        rw [e1, swp_l, swp_o f this e]; exact hl c h0 hn e1
      · by_cases e2 : c = i
        · subst e2
          have := par_lt h0
          rw [swp_l, swp_o f (by omega) (by omega)]
          exact h.b j hj0 hjn hpj h0
        · rw [swp_o f e2 e, swp_o f e1 hc]; exact h.a c h0 hn e1
  · have := par_lt h0
    rw [hpj, swp_l, swp_o f (by omega) (by omega)]
    have := h.a c h0 hn (by omega)
    rwa [hc] at this
/-- The lesser of two children. -/
theorem least {lt : Nat → Nat → Bool} (o : Or lt) {f : Nat → Nat} {n i : Nat} (j : Nat) (h : (j = 2 * i + 1 ∧ (2 * i + 2 < n → lt (f (2 * i + 2)) (f (2 * i + 1)) = false)) ∨ (j = 2 * i + 2 ∧ lt (f (2 * i + 2)) (f (2 * i + 1)) = true)) : ∀ c, 0 < c → c < n → par c = i → lt (f c) (f j) = false := by
  intro c h0 hn hc
  have hc2 : c = 2 * i + 1 ∨ c = 2 * i + 2 := by unfold par at hc; omega
  rcases h with ⟨rfl, h⟩ | ⟨rfl, h⟩
  · rcases hc2 with rfl | rfl
    · exact o.ir _
    · exact h hn
  · rcases hc2 with rfl | rfl
    · exact o.asy _ _ h
    · exact o.ir _
theorem IsHeap.root {lt : Nat → Nat → Bool} (o : Or lt) {f : Nat → Nat} {n : Nat} (h : IsHeap lt f n) : ∀ i, i < n → lt (f i) (f 0) = false := by
  intro i
  induction i using Nat.strongRecOn with
  | ind i ih =>
    intro hi
    by_cases e : i = 0
    · subst e; exact o.ir _
    · have hp := par_lt (i := i) (by omega)
      exact o.tr _ _ _ (ih (par i) hp (by omega)) (h i (by omega) hi)
theorem IsHeap.pop {lt : Nat → Nat → Bool} {f : Nat → Nat} {n : Nat} (h : IsHeap lt f (n + 1)) : DownI lt (swp f 0 n) n 0 := by
  refine ⟨fun c h0 hn hc => ?_, fun c h0 hn hc h => by omega⟩
  have := par_lt h0
  rw [swp_o f (by omega) (by omega), swp_o f hc (by omega)]
  exact h c h0 (by omega)
def ext (f : Nat → Nat) (n x : Nat) : Nat → Nat := fun k => if k = n then x else f k
theorem ext_o (f : Nat → Nat) {n x k : Nat} (h : k ≠ n) : ext f n x k = f k := by simp [ext, h]
theorem ext_n (f : Nat → Nat) (n x : Nat) : ext f n x n = x := by simp [ext]
theorem IsHeap.push {lt : Nat → Nat → Bool} {f : Nat → Nat} {n : Nat} (h : IsHeap lt f n) (x : Nat) : UpI lt (ext f n x) (n + 1) n := by
  refine ⟨fun c h0 hn hc => ?_, fun c h0 hn hc _ => ?_⟩
  · have := par_lt h0
    rw [ext_o f (by omega), ext_o f (by omega)]
    exact h c h0 (by omega)
  · have := par_lt h0; omega
/-- The same things, in another order. -/
structure Same (n : Nat) (f g : Nat → Nat) : Prop where
  ab : ∀ i, i < n → ∃ k, k < n ∧ f k = g i
  ba : ∀ i, i < n → ∃ k, k < n ∧ g k = f i
  inj : (∀ i k, i < n → k < n → f i = f k → i = k) → ∀ i k, i < n → k < n → g i = g k → i = k
theorem Same.refl (n : Nat) (f : Nat → Nat) : Same n f f := ⟨fun i h => ⟨i, h, rfl⟩, fun i h => ⟨i, h, rfl⟩, fun h => h⟩
theorem Same.trans {n : Nat} {f g h : Nat → Nat} (a : Same n f g) (b : Same n g h) : Same n f h := by
  refine ⟨fun i hi => ?_, fun i hi => ?_, fun H => b.inj (a.inj H)⟩
  · obtain ⟨k, hk, e⟩ := b.ab i hi
    obtain ⟨m, hm, e2⟩ := a.ab k hk
    exact ⟨m, hm, e2.trans e⟩
  · obtain ⟨k, hk, e⟩ := a.ba i hi
    obtain ⟨m, hm, e2⟩ := b.ba k hk
    exact ⟨m, hm, e2.trans e⟩
theorem Same.swp (n : Nat) (f : Nat → Nat) {i k : Nat} (hi : i < n) (hk : k < n) : Same n f (swp f i k) := by
  refine ⟨fun x hx => ?_, fun x hx => ?_, fun H x y hx hy e => ?_⟩
  · unfold HP.swp; split
    · exact ⟨k, hk, rfl⟩
    · split
      · exact ⟨i, hi, rfl⟩
      · exact ⟨x, hx, rfl⟩
  · by_cases e : x = i
    · exact ⟨k, hk, by rw [swp_r, e]⟩
    · by_cases e2 : x = k
      · exact ⟨i, hi, by rw [swp_l, e2]⟩
      · exact ⟨x, hx, swp_o f e e2⟩
  · have key : ∀ z, HP.swp f i k z = f (if z = i then k else if z = k then i else z) := fun z => by unfold HP.swp; split <;> (try split) <;> rfl
    have lt : ∀ z, z < n → (if z = i then k else if z = k then i else z) < n := fun z hz => by split <;> (try split) <;> assumption
    rw [key, key] at e
    have := H _ _ (lt x hx) (lt y hy) e
    revert this
    split <;> split <;> (try split) <;> (try split) <;> omega
end HP

def ptrV (b : Nat) : Value := .iface 65 (.pointer (some ⟨b, 0, none⟩))
def rowV (f : Nat → Nat) (n : Nat) : List Value := (List.range n).map fun i => ptrV (f i)
theorem rowV_length (f : Nat → Nat) (n : Nat) : (rowV f n).length = n := by simp [rowV]
theorem rowV_get (f : Nat → Nat) {n i : Nat} (h : i < n) : (rowV f n)[i]? = some (ptrV (f i)) := by simp [rowV, h]
theorem rowV_el (f : Nat → Nat) (n x : Nat) (h : x < (rowV f n).length) : (rowV f n)[x] = ptrV (f x) := by simp [rowV]
theorem rowV_ext (f : Nat → Nat) (n b : Nat) : rowV f n ++ [ptrV b] = rowV (HP.ext f n b) (n + 1) := by
  unfold rowV
  rw [List.range_succ, List.map_append, List.map_singleton, HP.ext_n]
  congr 1
  refine List.map_congr_left fun i hi => ?_
  rw [HP.ext_o f (by have := List.mem_range.1 hi; omega)]
theorem rowV_swp (f : Nat → Nat) {n i k : Nat} (hi : i < n) (hk : k < n) : ((rowV f n).set i (ptrV (f k))).set k (ptrV (f i)) = rowV (HP.swp f i k) n := by
  refine List.ext_getElem (by simp [rowV]) fun x h1 h2 => ?_
  rw [List.getElem_set, List.getElem_set, rowV_el, rowV_el]
  unfold HP.swp
  by_cases e1 : x = k
  · subst e1
    rw [if_pos rfl]
    by_cases e2 : x = i
    · subst e2; rw [if_pos rfl]
    · rw [if_neg e2, if_pos rfl]
  · rw [if_neg (Ne.symm e1)]
    by_cases e2 : x = i
    · subst e2; rw [if_pos rfl, if_pos rfl]
    · rw [if_neg (Ne.symm e2), if_neg e2, if_neg e1]
/-- A queue in memory. -/
structure QAt (w : World) (B q : Nat) (f : Nat → Nat) (n : Nat) : Prop where
  le : B ≤ q
  at_ : ∃ a cap, w.heap[q]? = some (.cells #[.slice a n cap] 64 (0, 0)) ∧ w.ownsRow B 128 1 (.slice a n cap) n (rowV f n)
/-- What a call leaves that may write into one queue alone. -/
structure HK (B q : Nat) (w w' : World) : Prop where
  bel : Below B w w'
  blk : ∀ k, k < w.heap.size → k ≠ q → (∀ cur fz, w.heap[k]? ≠ some (.cells cur 128 fz)) → w'.heap[k]? = w.heap[k]?
theorem HK.refl (B q : Nat) (w : World) : HK B q w w := ⟨Below.refl _ _, fun _ _ _ _ => rfl⟩
theorem HK.trans {B q : Nat} {w w1 w2 : World} (h : HK B q w w1) (k : HK B q w1 w2) : HK B q w w2 := by
  refine ⟨h.bel.trans k.bel, fun i hi hq hn => ?_⟩
  have e := h.blk i hi hq hn
  exact (k.blk i (Nat.lt_of_lt_of_le hi h.bel.size) hq (by rw [e]; exact hn)).trans e
theorem HK.drew {B q : Nat} {w w' : World} (h : HK B q w w') : HK B q w w'.drew := ⟨h.bel.drew, h.blk⟩
theorem QAt.drew {w : World} {B q n : Nat} {f : Nat → Nat} (h : QAt w B q f n) : QAt w.drew B q f n := ⟨h.le, h.at_⟩
theorem load154 (q : Nat) (a : Option Addr) (n c : Nat) (w : World) (h : w.heap[q]? = some (.cells #[.slice a n c] 64 (0, 0))) : (loadVar 64 ⟨q, 0, none⟩).run Tryd.prog w = .ok (.slice a n c) w := by
  have c0 : w.cell? ⟨q, 0, none⟩ = some (.slice a n c) := by simp [World.cell?, h]
  go_simp
theorem nil_rank (a : Addr) (w : World) : (nilAhead 231 65 (.pointer (some a)) "nar/store.rank").run Tryd.prog w = .ok (some false) w := by kernel_rfl
theorem meth_rank (a : Addr) (w : World) : (method 231 65 (.pointer (some a)) "nar/store.rank").run Tryd.prog w = .ok (78, .pointer (some a)) w := by kernel_rfl
theorem nil_Len (a : Addr) (w : World) : (nilAhead 231 62 (.pointer (some a)) "Len").run Tryd.prog w = .ok (some false) w := by kernel_rfl
theorem nil_Less (a : Addr) (w : World) : (nilAhead 231 62 (.pointer (some a)) "Less").run Tryd.prog w = .ok (some false) w := by kernel_rfl
theorem nil_Swap (a : Addr) (w : World) : (nilAhead 231 62 (.pointer (some a)) "Swap").run Tryd.prog w = .ok (some false) w := by kernel_rfl
theorem nil_Push (a : Addr) (w : World) : (nilAhead 231 62 (.pointer (some a)) "Push").run Tryd.prog w = .ok (some false) w := by kernel_rfl
theorem nil_Pop (a : Addr) (w : World) : (nilAhead 231 62 (.pointer (some a)) "Pop").run Tryd.prog w = .ok (some false) w := by kernel_rfl
theorem meth_Len0 (a : Addr) (w : World) : (method 231 62 (.pointer (some a)) "Len").run Tryd.prog w = ((loadVar 64 a).bind fun v => pure ((27 : FuncId), v)).run Tryd.prog w := by kernel_rfl
theorem meth_Less0 (a : Addr) (w : World) : (method 231 62 (.pointer (some a)) "Less").run Tryd.prog w = ((loadVar 64 a).bind fun v => pure ((74 : FuncId), v)).run Tryd.prog w := by kernel_rfl
theorem meth_Swap0 (a : Addr) (w : World) : (method 231 62 (.pointer (some a)) "Swap").run Tryd.prog w = ((loadVar 64 a).bind fun v => pure ((77 : FuncId), v)).run Tryd.prog w := by kernel_rfl
theorem meth_Push (a : Addr) (w : World) : (method 231 62 (.pointer (some a)) "Push").run Tryd.prog w = .ok (76, .pointer (some a)) w := by kernel_rfl
theorem meth_Pop (a : Addr) (w : World) : (method 231 62 (.pointer (some a)) "Pop").run Tryd.prog w = .ok (75, .pointer (some a)) w := by kernel_rfl
theorem bind_load {q n c : Nat} {a : Option Addr} {w : World} (k : FuncId) (h : w.heap[q]? = some (.cells #[.slice a n c] 64 (0, 0))) : ((loadVar 64 ⟨q, 0, none⟩).bind fun v => pure (k, v)).run Tryd.prog w = .ok (k, .slice a n c) w := by
  show ((loadVar 64 ⟨q, 0, none⟩) >>= fun v => pure (k, v)).run Tryd.prog w = _
  rw [Sem.run_bind, load154 q a n c w h]
  rfl
theorem meth_Len {q n c : Nat} {a : Option Addr} {w : World} (h : w.heap[q]? = some (.cells #[.slice a n c] 64 (0, 0))) : (method 231 62 (.pointer (some ⟨q, 0, none⟩)) "Len").run Tryd.prog w = .ok (27, .slice a n c) w := (meth_Len0 _ w).trans (bind_load 27 h)
theorem meth_Less {q n c : Nat} {a : Option Addr} {w : World} (h : w.heap[q]? = some (.cells #[.slice a n c] 64 (0, 0))) : (method 231 62 (.pointer (some ⟨q, 0, none⟩)) "Less").run Tryd.prog w = .ok (74, .slice a n c) w := (meth_Less0 _ w).trans (bind_load 74 h)
theorem meth_Swap {q n c : Nat} {a : Option Addr} {w : World} (h : w.heap[q]? = some (.cells #[.slice a n c] 64 (0, 0))) : (method 231 62 (.pointer (some ⟨q, 0, none⟩)) "Swap").run Tryd.prog w = .ok (77, .slice a n c) w := (meth_Swap0 _ w).trans (bind_load 77 h)
theorem assert_ranked (b : Nat) (w : World) : (Instr.typeAssert (.iface 65 (.pointer (some ⟨b, 0, none⟩))) 20 128 true).run Tryd.prog w = .ok (.tuple #[.iface 65 (.pointer (some ⟨b, 0, none⟩)), .bool true]) w := by kernel_rfl
theorem Tryd.info128 : (Tryd.prog.info? 128).map (fun i => (i.zero, i.size, i.bytes)) = some (some .nilIface, 1, 16) := by kernel_rfl
set_option maxRecDepth 20000 in
set_option maxHeartbeats 400000 in
theorem rank_any (b : Nat) (p : ByteArray) (w : World) (h : w.cell? ⟨b, 0, none⟩ = some (.string p)) : Calls Tryd.prog 78 #[.pointer (some ⟨b, 0, none⟩)] w fun e w' => e = .returned (.string p) ∧ w' = w := by
  go_enter Tryd.func78, Tryd.ntmps78
  go_wp2
  go_ret
  exact ⟨rfl, rfl⟩
set_option maxRecDepth 20000 in
set_option maxHeartbeats 400000 in
theorem qLen_any (a : Option Addr) (n c : Nat) (w : World) : Calls Tryd.prog 27 #[.slice a n c] w fun e w' => e = .returned (.int .i64 n) ∧ w' = w := by
  go_enter Tryd.func27, Tryd.ntmps27
  go_wp2
  go_ret
  exact ⟨rfl, rfl⟩
set_option maxRecDepth 20000 in
set_option maxHeartbeats 4000000 in
theorem qLess_any (qb off c n i k b1 b2 : Nat) (p1 p2 : ByteArray) (w : World) (hi : i < n) (hk : k < n)
    (h1 : w.cell? ⟨qb, off + i, none⟩ = some (.iface 65 (.pointer (some ⟨b1, 0, none⟩)))) (h2 : w.cell? ⟨qb, off + k, none⟩ = some (.iface 65 (.pointer (some ⟨b2, 0, none⟩))))
    (h3 : w.cell? ⟨b1, 0, none⟩ = some (.string p1)) (h4 : w.cell? ⟨b2, 0, none⟩ = some (.string p2)) :
    Calls Tryd.prog 74 #[.slice (some ⟨qb, off, none⟩) n c, .int .i64 i, .int .i64 k] w fun e w' => e = .returned (.bool (Op.bytesLess p1.toList p2.toList)) ∧ ∃ m, w' = w.drewN m := by
  have hiz : (i : Int) < n := by omega
  have hkz : (k : Int) < n := by omega
  have n1 := nil_rank ⟨b1, 0, none⟩
  have n2 := nil_rank ⟨b2, 0, none⟩
  have m1 := meth_rank ⟨b1, 0, none⟩
  have m2 := meth_rank ⟨b2, 0, none⟩
  go_enter Tryd.func74, Tryd.ntmps74
  go_wp2
  go_quiet ((go_at_call 78; first | exact Calls.quiet_of_same (rank_any b1 p1 _ (by simpa using h3)) | exact Calls.quiet_of_same (rank_any b2 p2 _ (by simpa using h4))))
  go_wp2
  go_ret
  exact ⟨rfl, _, rfl⟩
set_option maxRecDepth 20000 in
set_option maxHeartbeats 4000000 in
theorem qSwap_two (qb off c n i k : Nat) (p1 p2 : Option Addr) (w : World) (hi : i < n) (hk : k < n) (hne : i ≠ k)
    (h1 : w.cell? ⟨qb, off + i, none⟩ = some (.iface 65 (.pointer p1))) (h2 : w.cell? ⟨qb, off + k, none⟩ = some (.iface 65 (.pointer p2))) (f1 : w.frozen? ⟨qb, off + i, none⟩ = false) (f2 : w.frozen? ⟨qb, off + k, none⟩ = false) :
    Calls Tryd.prog 77 #[.slice (some ⟨qb, off, none⟩) n c, .int .i64 i, .int .i64 k] w fun e w' => e = .returned (.tuple #[]) ∧ w' = ((w.setCell ⟨qb, off + i, none⟩ (.iface 65 (.pointer p2))).setCell ⟨qb, off + k, none⟩ (.iface 65 (.pointer p1))).drew := by
  have hiz : (i : Int) < n := by omega
  have hkz : (k : Int) < n := by omega
  go_enter Tryd.func77, Tryd.ntmps77
  go_wp2
  go_region
  go_end0
  exact ⟨rfl, rfl⟩
set_option maxRecDepth 20000 in
set_option maxHeartbeats 4000000 in
theorem qSwap_one (qb off c n i : Nat) (p1 : Option Addr) (w : World) (hi : i < n)
    (h1 : w.cell? ⟨qb, off + i, none⟩ = some (.iface 65 (.pointer p1))) (f1 : w.frozen? ⟨qb, off + i, none⟩ = false) :
    Calls Tryd.prog 77 #[.slice (some ⟨qb, off, none⟩) n c, .int .i64 i, .int .i64 i] w fun e w' => e = .returned (.tuple #[]) ∧ w' = ((w.setCell ⟨qb, off + i, none⟩ (.iface 65 (.pointer p1))).setCell ⟨qb, off + i, none⟩ (.iface 65 (.pointer p1))).drew := by
  have hiz : (i : Int) < n := by omega
  go_enter Tryd.func77, Tryd.ntmps77
  go_wp2
  go_region
  go_end0
  exact ⟨rfl, rfl⟩
end Go.Proofs.YticcbaapbnfmmaaDoor
namespace Go.Proofs.YticcbaapbnfmmaaDoor
open Go.RowKit
theorem own_ne {w : World} {B q n : Nat} {a : Option Addr} {c : Nat} {xs : List Value} {v : Value} (hq : w.heap[q]? = some (.cells #[v] 64 (0, 0))) (ho : w.ownsRow B 128 1 (.slice a n c) n xs) : some q ≠ (Value.slice a n c).ownBlock := by
  intro e
  rcases ho.2 with ⟨h1, _⟩ | ⟨g, cap, cur, h1, _, h2, _⟩
  · rw [h1] at e; cases e
  · rw [h1] at e
    simp only [Value.ownBlock, Option.some.injEq] at e
    rw [← e, hq] at h2
    simp at h2
theorem own_blk {w : World} {B n k : Nat} {a : Option Addr} {c : Nat} {xs : List Value} (ho : w.ownsRow B 128 1 (.slice a n c) n xs) (hk : ∀ cur fz, w.heap[k]? ≠ some (.cells cur 128 fz)) : some k ≠ (Value.slice a n c).ownBlock := by
  intro e
  rcases ho.2 with ⟨h1, _⟩ | ⟨g, cap, cur, h1, _, h2, _⟩
  · rw [h1] at e; cases e
  · rw [h1] at e
    simp only [Value.ownBlock, Option.some.injEq] at e
    rw [← e] at h2
    exact hk _ _ h2
/-- Another list stands in the queue's variable. -/
theorem QAt.put {w w3 : World} {B q n m : Nat} {a a' : Option Addr} {c c' : Nat} {f : Nat → Nat} (hle : B ≤ q) (hq : w3.heap[q]? = some (.cells #[.slice a n c] 64 (0, 0))) (ho : w3.ownsRow B 128 1 (.slice a' m c') m (rowV f m)) (hk : HK B q w w3) :
    QAt (w3.setCell ⟨q, 0, none⟩ (.slice a' m c')) B q f m ∧ HK B q w (w3.setCell ⟨q, 0, none⟩ (.slice a' m c')) := by
  have hself : (w3.setCell ⟨q, 0, none⟩ (.slice a' m c')).heap[q]? = some (.cells #[.slice a' m c'] 64 (0, 0)) := by
    simp [World.setCell, Array.getElem?_modify, hq]
  refine ⟨⟨hle, a', c', hself, ?_⟩, ⟨hk.bel.setCell hle _, fun k hk1 hk2 hk3 => ?_⟩⟩
  · refine ⟨ho.1, ?_⟩
    rcases ho.2 with h | ⟨g, cap, cur, h1, h2, h3, h4⟩
    · exact .inl h
    · have hne : g ≠ q := fun e => by rw [e, hq] at h3; simp at h3
      exact .inr ⟨g, cap, cur, h1, h2, (Below.heap_setCell _ _ _ _ hne).trans h3, h4⟩
  · exact (Below.heap_setCell _ _ _ _ hk2).trans (hk.blk k hk1 hk2 hk3)
theorem push_after {w w3 : World} {B q n b qc : Nat} {qa : Option Addr} {f : Nat → Nat} {v3 : Value} (hql : q < w.heap.size) (hle : B ≤ q) (hq : w.heap[q]? = some (.cells #[.slice qa n qc] 64 (0, 0))) (ho : w.ownsRow B 128 1 (.slice qa n qc) n (rowV f n)) (hown3 : w3.ownsRow B 128 1 v3 (n + 1) (rowV f n ++ [ptrV b])) (hgrow3 : (w.alloc (.cells #[ptrV b] 128)).grownBy w3 (Value.slice qa n qc).ownBlock) :
    ∃ a3 c3, v3 = .slice a3 (n + 1) c3 ∧ w3.heap[q]? = some (.cells #[.slice qa n qc] 64 (0, 0)) ∧ w3.ownsRow B 128 1 (.slice a3 (n + 1) c3) (n + 1) (rowV (HP.ext f n b) (n + 1)) ∧ HK B q w w3 := by
  obtain ⟨a3, c3, rfl, _⟩ := own_sl hown3
  rw [rowV_ext] at hown3
  refine ⟨a3, c3, rfl, ?_, hown3, ⟨?_, fun k hk1 _ hk3 => ?_⟩⟩
  · exact (hgrow3.block q (by simp; omega) (own_ne hq ho)).trans (block_keep _ hq)
  · exact ((Below.refl B w).alloc (by omega) _).grown hgrow3 (by simp; omega) (fun k hk => (ho.lt k hk).1)
  · exact (hgrow3.block k (by simp; omega) (own_blk ho hk3)).trans (Below.heap_alloc w (.cells #[ptrV b] 128) k hk1)
set_option maxRecDepth 20000 in
set_option maxHeartbeats 4000000 in
theorem qPush_any (B q b n : Nat) (f : Nat → Nat) (w : World) (h : QAt w B q f n) (hn : n ≤ 1000) : Calls Tryd.prog 76 #[.pointer (some ⟨q, 0, none⟩), .iface 65 (.pointer (some ⟨b, 0, none⟩))] w fun e w' => e = .returned (.tuple #[]) ∧ QAt w' B q (HP.ext f n b) (n + 1) ∧ HK B q w w' := by
  obtain ⟨i245, hi245, h0, h1, h2⟩ := info_parts Tryd.info128
  obtain ⟨qa, qc, hq, ho⟩ := h.at_
  have hle := h.le
  have HO := hide ho
  have HQ := hide hq
  have hql : q < w.heap.size := (Array.getElem?_eq_some_iff.1 hq).1
  have c0 : w.cell? ⟨q, 0, none⟩ = some (.slice qa n qc) := by simp [World.cell?, hq]
  have ass := assert_ranked b
  clear h hq ho
  go_enter Tryd.func76, Tryd.ntmps76
  go_wp2_with (at_builtin; refine wpList_append_own _ rfl (.tmp 15) (.tmp 17) 64 rfl B 128 i245 .nilIface 1 16 Tryd.underlying64 hi245 h0 h1 h2 rfl (by decide) (.slice qa n qc) n (rowV f n) rfl (HO.out.alloc _) ⟨w.heap.size, 0, none⟩ 1 1 [ptrV b] rfl rfl (cell_one_at _ _ _ _ rfl) (fun x hx => by simp at hx; subst hx; rfl) (by unfold maxLen; omega) (by omega) (by simp; omega) ?_; intro v3 w3 hown3 hgrow3 hnil3; obtain ⟨a3, cap3, rfl, hq3, ho3, hk3⟩ := push_after hql hle HQ.out HO.out hown3 hgrow3; have c3 : w3.cell? ⟨q, 0, none⟩ = some (.slice qa n qc) := (by simp [World.cell?, hq3]); have f3 : w3.frozen? ⟨q, 0, none⟩ = false := (by simp [World.frozen?, hq3]); have HQ3 := hide hq3; have HO3 := hide ho3; have HK3 := hide hk3; clear hown3 hgrow3 hnil3 hq3 ho3 hk3)
  go_end0
  exact ⟨rfl, QAt.put hle HQ3.out HO3.out HK3.out⟩
set_option maxRecDepth 20000 in
set_option maxHeartbeats 4000000 in
theorem qPop_any (B q n : Nat) (f : Nat → Nat) (w : World) (h : QAt w B q f (n + 1)) (hn : n ≤ 1000) : Calls Tryd.prog 75 #[.pointer (some ⟨q, 0, none⟩)] w fun e w' => e = .returned (.iface 65 (.pointer (some ⟨f n, 0, none⟩))) ∧ QAt w' B q f n ∧ HK B q w w' := by
  obtain ⟨a, c, hq, ho⟩ := h.at_
  obtain ⟨g, cap, hs, hcap⟩ := own_form ho (by omega)
  injection hs with e1 _ e3
  subst e1 e3
  have hle := h.le
  have HO := hide ho
  have HQ := hide hq
  have c0 : w.cell? ⟨q, 0, none⟩ = some (.slice (some ⟨g, 0, none⟩) (n + 1) c) := by simp [World.cell?, hq]
  have f0 : w.frozen? ⟨q, 0, none⟩ = false := by simp [World.frozen?, hq]
  have c1 : w.cell? ⟨g, n, none⟩ = some (.iface 65 (.pointer (some ⟨f n, 0, none⟩))) := (ho.cellAt n (by omega)).trans (rowV_get f (by omega))
  have hz : (((n + 1 : Nat) : Int) - 1) = n := by omega
  clear h hq ho
  go_enter Tryd.func75, Tryd.ntmps75
  go_wp2
  go_ret
  refine ⟨rfl, QAt.put hle HQ.out ?_ (HK.refl _ _ _)⟩
  refine ⟨by simp [rowV_length], ?_⟩
  rcases HO.out.2 with ⟨h1, _⟩ | ⟨g', cap', cur, h1, h2, h3, h4, h5, h6, h7⟩
  · cases h1
  · injection h1 with e1 _ e3
    injection e1 with e1
    injection e1 with e1
    subst e1 e3
    refine .inr ⟨g, c, cur, rfl, h2, h3, by omega, h5, h6, ?_⟩
    have := congrArg (List.take (n * 1)) h7
    rw [List.take_take, Nat.min_eq_left (by omega)] at this
    rw [this]
    unfold rowV
    rw [List.range_succ, List.map_append, List.take_append_of_le_length (by simp), List.take_of_length_le (by simp)]
end Go.Proofs.YticcbaapbnfmmaaDoor
namespace Go.Proofs.YticcbaapbnfmmaaDoor
open Go.RowKit
/-- The things of a queue bear their keys. -/
def KeyAt (w : World) (key : Nat → ByteArray) (f : Nat → Nat) (n : Nat) : Prop := ∀ i, i < n → ∃ x y, w.heap[f i]? = some (.cells #[.string (key (f i)), x, y] 68 (0, 0))
def ltK (key : Nat → ByteArray) (a b : Nat) : Bool := Op.bytesLess (key a).toList (key b).toList
theorem KeyAt.hk {w w' : World} {key : Nat → ByteArray} {f g : Nat → Nat} {n B q : Nat} (h : KeyAt w key f n) (hQ : QAt w B q f n) (hs : HP.Same n f g) (hk : HK B q w w') : KeyAt w' key g n := by
  intro i hi
  obtain ⟨k, hkn, e⟩ := hs.ab i hi
  obtain ⟨x, y, hb⟩ := h k hkn
  obtain ⟨a, c, hq, _⟩ := hQ.at_
  rw [← e]
  refine ⟨x, y, (hk.blk _ (Array.getElem?_eq_some_iff.1 hb).1 (fun e2 => ?_) (fun cur fz e2 => ?_)).trans hb⟩
  · rw [e2, hq] at hb; simp at hb
  · rw [hb] at e2; simp at e2
theorem QAt.drewN {w : World} {B q n : Nat} {f : Nat → Nat} (h : QAt w B q f n) (m : Nat) : QAt (w.drewN m) B q f n := ⟨h.le, h.at_⟩
theorem HK.drewN (B q : Nat) (w : World) (m : Nat) : HK B q w (w.drewN m) := ⟨below_drewN (Below.refl _ _) m, fun _ _ _ _ => rfl⟩
theorem qLess_Q {w : World} {B q n c i k : Nat} {a : Option Addr} {f : Nat → Nat} {key : Nat → ByteArray} (hQ : w.heap[q]? = some (.cells #[.slice a n c] 64 (0, 0))) (ho : w.ownsRow B 128 1 (.slice a n c) n (rowV f n)) (hle : B ≤ q) (hK : KeyAt w key f n) (hi : i < n) (hk : k < n) :
    Calls Tryd.prog 74 #[.slice a n c, .int .i64 i, .int .i64 k] w fun e w' => e = .returned (.bool (ltK key (f i) (f k))) ∧ QAt w' B q f n ∧ HK B q w w' := by
  obtain ⟨g, cap, hs, hcap⟩ := own_form ho (by omega)
  injection hs with e1 _ e3
  subst e1 e3
  obtain ⟨x1, y1, k1⟩ := hK i hi
  obtain ⟨x2, y2, k2⟩ := hK k hk
  refine (qLess_any g 0 c n i k (f i) (f k) (key (f i)) (key (f k)) w hi hk ?_ ?_ (by simp [World.cell?, k1]) (by simp [World.cell?, k2])).mono ?_
  · rw [Nat.zero_add]; exact (ho.cellAt i (by omega)).trans (rowV_get f hi)
  · rw [Nat.zero_add]; exact (ho.cellAt k (by omega)).trans (rowV_get f hk)
  · rintro e w' ⟨rfl, m, rfl⟩
    exact ⟨rfl, QAt.drewN ⟨hle, _, _, hQ, ho⟩ m, HK.drewN _ _ _ _⟩
theorem qSwap_Q {w : World} {B q n c i k : Nat} {a : Option Addr} {f : Nat → Nat} (hQ : w.heap[q]? = some (.cells #[.slice a n c] 64 (0, 0))) (ho : w.ownsRow B 128 1 (.slice a n c) n (rowV f n)) (hle : B ≤ q) (hi : i < n) (hk : k < n) :
    Calls Tryd.prog 77 #[.slice a n c, .int .i64 i, .int .i64 k] w fun e w' => e = .returned (.tuple #[]) ∧ QAt w' B q (HP.swp f i k) n ∧ HK B q w w' := by
  obtain ⟨g, cap, hs, hcap⟩ := own_form ho (by omega)
  injection hs with e1 _ e3
  subst e1 e3
  have hg := (ho.lt g rfl).1
  have c1 := (ho.cellAt i (by omega)).trans (rowV_get f hi)
  have c2 := (ho.cellAt k (by omega)).trans (rowV_get f hk)
  have f1 := ho.frozenAt i
  have f2 := ho.frozenAt k
  obtain ⟨s1, s1'⟩ := ho.stored i (ptrV (f k))
  obtain ⟨s2, s2'⟩ := s1.stored k (ptrV (f i))
  rw [rowV_swp f hi hk] at s2
  have hne : q ≠ g := fun e => own_ne hQ ho (by rw [e]; rfl)
  have fin : ∀ w2, w2 = ((w.setCell ⟨g, i, none⟩ (ptrV (f k))).setCell ⟨g, k, none⟩ (ptrV (f i))).drew → QAt w2 B q (HP.swp f i k) n ∧ HK B q w w2 := by
    rintro w2 rfl
    refine ⟨QAt.drew ⟨hle, _, _, ?_, s2⟩, HK.drew ⟨?_, fun x h1 h2 h3 => ?_⟩⟩
    · exact (Below.heap_setCell _ _ _ _ hne).trans ((Below.heap_setCell _ _ _ _ hne).trans hQ)
    · exact ((Below.refl B w).setCell hg _).setCell hg _
    · have hx : x ≠ g := fun e => own_blk ho h3 (by rw [e]; rfl)
      exact (Below.heap_setCell _ _ _ _ hx).trans (Below.heap_setCell _ _ _ _ hx)
  by_cases e : i = k
  · subst e
    refine (qSwap_one g 0 c n i (some ⟨f i, 0, none⟩) w hi (by rw [Nat.zero_add]; exact c1) (by rw [Nat.zero_add]; exact f1)).mono ?_
    rintro e w' ⟨rfl, h⟩
    rw [Nat.zero_add] at h
    exact ⟨rfl, fin w' h⟩
  · refine (qSwap_two g 0 c n i k (some ⟨f i, 0, none⟩) (some ⟨f k, 0, none⟩) w hi hk e (by rw [Nat.zero_add]; exact c1) (by rw [Nat.zero_add]; exact c2) (by rw [Nat.zero_add]; exact f1) (by rw [Nat.zero_add]; exact f2)).mono ?_
    rintro e w' ⟨rfl, h⟩
    rw [Nat.zero_add, Nat.zero_add] at h
    exact ⟨rfl, fin w' h⟩
set_option maxRecDepth 20000 in
set_option maxHeartbeats 4000000 in
theorem up_any (B q n j : Nat) (f : Nat → Nat) (key : Nat → ByteArray) (w : World) (h : QAt w B q f n) (hn : n ≤ 1000) (hK : KeyAt w key f n) (hj : j < n) (hU : HP.UpI (ltK key) f n j) (hO : HP.Or (ltK key)) :
    Calls Tryd.prog 35 #[.iface 62 (.pointer (some ⟨q, 0, none⟩)), .int .i64 j] w fun e w' => e = .returned (.tuple #[]) ∧ ∃ g, QAt w' B q g n ∧ HP.IsHeap (ltK key) g n ∧ HP.Same n f g ∧ HK B q w w' := by
  have HH := hide h
  have HKK := hide hK
  have HO := hide hO
  have HU := hide hU
  clear h hK hO hU
  have nl := nil_Less ⟨q, 0, none⟩
  have ns := nil_Swap ⟨q, 0, none⟩
  go_enter Tryd.func35, Tryd.ntmps35
  go_wp2
  go_loopw [1, 4] (fun jv _ w1 => ∃ (i : Nat) (g : Nat → Nat), jv = .int .i64 i ∧ i < n ∧ Hid (QAt w1 B q g n) ∧ Hid (HP.UpI (ltK key) g n i) ∧ Hid (HP.Same n f g) ∧ Hid (HK B q w w1)) (fun jv _ _ => (intOf jv).toNat)
  case atStart => exact ⟨j, f, rfl, hj, HH, HU, hide (HP.Same.refl _ _), hide (HK.refl _ _ _)⟩
  case round =>
    obtain ⟨i, g, rfl, hi, HQ1, HU1, HS1, HK1⟩ := hrel
    by_cases h0 : i = 0
    · subst h0
      go_wp2
      go_end0
      exact ⟨rfl, g, HQ1.out, HU1.out.end0, HS1.out, HK1.out⟩
    · have hp : HP.par i < i := HP.par_lt (by omega)
      have hdiv : ((i : Int) - 1).tdiv 2 = (HP.par i : Nat) := by
        rw [Int.tdiv_eq_ediv_of_nonneg (by omega)]
        unfold HP.par
        omega
      have hpi : HP.par i < n := by omega
      obtain ⟨a, c, hq, ho⟩ := HQ1.out.at_
      have ml := meth_Less hq
      have cL := hide (qLess_Q hq ho HQ1.out.le (HKK.out.hk HH.out HS1.out HK1.out) hi hpi)
      have hpz : ¬ (HP.par i : Int) = i := by omega
      have hstep := hide (HU1.out.step HO.out (by omega) hi)
      have hstop := hide HU1.out.stop
      generalize HP.par i = p at *
      clear HU1 ho
      cases hl : ltK key (g i) (g p) with
      | false =>
        rw [hl] at cL
        go_wp2_with fail
        refine cL.out.mono ?_
        rintro e w2 ⟨rfl, hQ2, hK2⟩
        have HQ2 := hide hQ2
        have HK2 := hide (HK1.out.trans hK2)
        clear hQ2 hK2 cL ml
        go_wp2
        go_end0
        exact ⟨rfl, g, HQ2.out, hstop.out hl, HS1.out, HK2.out⟩
      | true =>
        rw [hl] at cL
        go_wp2_with fail
        refine cL.out.mono ?_
        rintro e w2 ⟨rfl, hQ2, hK2⟩
        obtain ⟨a2, c2, hq2, ho2⟩ := hQ2.at_
        have ms := meth_Swap hq2
        have cS := hide (qSwap_Q hq2 ho2 hQ2.le hpi hi)
        have HK2 := hide (HK1.out.trans hK2)
        clear hQ2 hK2 cL ml ho2
        go_wp2_with fail
        refine cS.out.mono ?_
        rintro e w3 ⟨rfl, hQ3, hK3⟩
        have HQ3 := hide hQ3
        have HK3 := hide (HK2.out.trans hK3)
        have HS3 := hide (HS1.out.trans (HP.Same.swp n g hpi hi))
        have HU3 := hide (hstep.out hl)
        clear hQ3 hK3 cS ms hq2
        go_wp2
        go_roundw
        case rel => exact ⟨p, _, rfl, hpi, HQ3, HU3, HS3, HK3⟩
        case measure => simp [intOf]; omega
set_option maxRecDepth 20000 in
set_option maxHeartbeats 4000000 in
theorem heapPush_any (B q n b : Nat) (f : Nat → Nat) (key : Nat → ByteArray) (w : World) (h : QAt w B q f n) (hn : n < 1000) (hK : KeyAt w key (HP.ext f n b) (n + 1)) (hH : HP.IsHeap (ltK key) f n) (hO : HP.Or (ltK key)) :
    Calls Tryd.prog 26 #[.iface 62 (.pointer (some ⟨q, 0, none⟩)), .iface 65 (.pointer (some ⟨b, 0, none⟩))] w fun e w' => e = .returned (.tuple #[]) ∧ ∃ g, QAt w' B q g (n + 1) ∧ HP.IsHeap (ltK key) g (n + 1) ∧ HP.Same (n + 1) (HP.ext f n b) g ∧ HK B q w w' := by
  have cP := hide (qPush_any B q b n f w h (by omega))
  have cU : Hid (∀ w1, QAt w1 B q (HP.ext f n b) (n + 1) → HK B q w w1 → Calls Tryd.prog 35 #[.iface 62 (.pointer (some ⟨q, 0, none⟩)), .int .i64 n] w1 fun e w' => e = .returned (.tuple #[]) ∧ ∃ g, QAt w' B q g (n + 1) ∧ HP.IsHeap (ltK key) g (n + 1) ∧ HP.Same (n + 1) (HP.ext f n b) g ∧ HK B q w1 w') := hide fun w1 hQ hk => by
    refine up_any B q (n + 1) n _ key w1 hQ (by omega) ?_ (by omega) (hH.push b) hO
    intro i hi
    obtain ⟨x, y, hb⟩ := hK i hi
    obtain ⟨a, c, hq, _⟩ := h.at_
    refine ⟨x, y, (hk.blk _ (Array.getElem?_eq_some_iff.1 hb).1 (fun e2 => ?_) (fun cur fz e2 => ?_)).trans hb⟩
    · rw [e2, hq] at hb; simp at hb
    · rw [hb] at e2; simp at e2
  clear h hK hH hO
  have np := nil_Push ⟨q, 0, none⟩
  have mp := meth_Push ⟨q, 0, none⟩
  have nl := nil_Len ⟨q, 0, none⟩
  have hz : (((n + 1 : Nat) : Int) - 1) = n := by omega
  go_enter Tryd.func26, Tryd.ntmps26
  go_wp2_with fail
  refine cP.out.mono ?_
  rintro e w1 ⟨rfl, hQ1, hK1⟩
  obtain ⟨a1, c1, hq1, ho1⟩ := hQ1.at_
  have ml := meth_Len hq1
  have cL := hide (qLen_any a1 (n + 1) c1 w1)
  have cU1 := hide (cU.out w1 hQ1 hK1)
  have HK1 := hide hK1
  clear cP cU hQ1 hK1 ho1 hq1
  go_wp2_with fail
  refine cL.out.mono ?_
  rintro e w2 ⟨rfl, rfl⟩
  go_wp2_with fail
  refine cU1.out.mono ?_
  rintro e w3 ⟨rfl, g, hQ3, hH3, hS3, hK3⟩
  have HK3 := hide (HK1.out.trans hK3)
  go_wp2
  go_end0
  exact ⟨rfl, g, hQ3, hH3, hS3, HK3.out⟩
end Go.Proofs.YticcbaapbnfmmaaDoor
