import Derived.Test.YticfcjmlphhpgabGreatDoorB07
import Derived.Deep.RegionLaw
import Derived.Laws.Rows
namespace Go.Proofs.YticfcjmlphhpgabGreatDoor
open Go.RowKit

set_option maxRecDepth 20000 in
set_option maxHeartbeats 400000 in
theorem Words_any (fn : Fn) (first cap : Array Value) (w : World) :
    Calls Tryz.prog 40 #[.func fn first cap] w fun e w' => e = .returned (.agg #[.int .i64 8, .func fn first cap]) ∧ Below w.heap.size w w' := by
  go_enter Tryz.func40, Tryz.ntmps40
  go_wp2
  (try simp only [Exit.inBlock, Exit.then])
  refine bodyPost_ret (results_cell_row rfl _ _ w.heap.size 92 _ (0, 0) _ rfl (block_new w _) Tryz.underlying92 rfl (by kernel_rfl)) rfl ?_
  exact ⟨rfl, (Below.refl _ w).alloc (Nat.le_refl _) _⟩

set_option maxRecDepth 20000 in
set_option maxHeartbeats 400000 in
theorem Word_any (s : ByteArray) (w : World) :
    Calls Tryz.prog 39 #[.string s] w fun e w' => ∃ bx, e = .returned (.agg #[.int .i64 8, .func (.func 66) #[] #[.pointer (some ⟨bx, 0, none⟩)]]) ∧ w'.heap[bx]? = some (.cells #[.string s] 9 (0, 0)) ∧ Below w.heap.size w w' := by
  have hmf : ∀ (fn : Fn) (first cap : Array Value) (w : World), (Instr.makeFunc fn first cap).run Tryz.prog w = .ok (.func fn first cap) w := fun _ _ _ _ => rfl
  go_enter Tryz.func39, Tryz.ntmps39
  go_wp2_with fail
  refine (Words_any _ _ _ _).mono ?_
  rintro e w1 ⟨rfl, hb⟩
  have hlt : w.heap.size + 1 < ((w.alloc (.cells #[.string s] 9)).alloc (.cells #[.int .i64 0, .nilFunc] 92)).heap.size := by simp
  have h1 : w1.heap[w.heap.size]? = some (.cells #[.string s] 9 (0, 0)) := (hb.block _ (by omega)).trans (block_keep _ (block_new w _))
  have h2 : w1.heap[w.heap.size + 1]? = some (.cells #[.int .i64 0, .nilFunc] 92 (0, 0)) := by
    have := block_new (w.alloc (.cells #[.string s] 9)) (.cells #[.int .i64 0, .nilFunc] 92)
    rw [World.size_alloc] at this
    exact (hb.block _ hlt).trans this
  have hbw : Below w.heap.size w w1 := (((Below.refl _ w).alloc (Nat.le_refl _) _).alloc (by simp) _).trans (hb.mono (by simp; omega))
  have c0 : w1.cell? ⟨w.heap.size + 1, 0, none⟩ = some (.int .i64 0) := by simp [World.cell?, h2]
  have c1 : w1.cell? ⟨w.heap.size + 1, 1, none⟩ = some .nilFunc := by simp [World.cell?, h2]
  have f0 : w1.frozen? ⟨w.heap.size + 1, 0, none⟩ = false := by simp [World.frozen?, h2]
  have f1 : w1.frozen? ⟨w.heap.size + 1, 1, none⟩ = false := by simp [World.frozen?, h2]
  go_wp2
  (try simp only [Exit.inBlock, Exit.then])
  have h3 := block_set (block_set h2 0 (.int .i64 8)) 1 (.func (.func 66) #[] #[.pointer (some ⟨w.heap.size, 0, none⟩)])
  refine bodyPost_ret (results_cell_row rfl _ _ (w.heap.size + 1) 92 _ (0, 0) _ rfl h3 Tryz.underlying92 rfl (by kernel_rfl)) rfl ?_
  refine ⟨w.heap.size, rfl, ?_, ?_⟩
  · rw [Below.heap_setCell _ _ _ _ (by simp), Below.heap_setCell _ _ _ _ (by simp)]; exact h1
  · exact (hbw.setCell (p := ⟨w.heap.size + 1, 0, none⟩) (by simp) _).setCell (p := ⟨w.heap.size + 1, 1, none⟩) (by simp) _

set_option maxRecDepth 20000 in
set_option maxHeartbeats 400000 in
theorem data_any (R : Nat) (w : World) :
    Calls Tryz.prog 139 #[.pointer (some ⟨R, 0, none⟩)] w fun e w' => e = .returned (.agg #[.int .i64 100, .func (.func 142) #[.pointer (some ⟨R, 0, none⟩)] #[]]) ∧ Below w.heap.size w w' := by
  have hmf : ∀ (fn : Fn) (first cap : Array Value) (w : World), (Instr.makeFunc fn first cap).run Tryz.prog w = .ok (.func fn first cap) w := fun _ _ _ _ => rfl
  go_enter Tryz.func139, Tryz.ntmps139
  go_wp2
  (try simp only [Exit.inBlock, Exit.then])
  refine bodyPost_ret (results_cell_row rfl _ _ w.heap.size 92 _ (0, 0) _ rfl (block_new w _) Tryz.underlying92 rfl (by kernel_rfl)) rfl ?_
  exact ⟨rfl, (Below.refl _ w).alloc (Nat.le_refl _) _⟩

set_option maxRecDepth 20000 in
set_option maxHeartbeats 400000 in
theorem takeWord_any (bx : Nat) (want s : ByteArray) (w : World) (h : w.heap[bx]? = some (.cells #[.string want] 9 (0, 0))) :
    Calls Tryz.prog 66 #[.string s, .pointer (some ⟨bx, 0, none⟩)] w fun e w' => e = .returned (.int .i64 (if s = want then 0 else 5)) ∧ w' = w := by
  have hc : w.cell? ⟨bx, 0, none⟩ = some (.string want) := by simp [World.cell?, h]
  by_cases e : s = want
  · subst e
    rw [if_pos rfl]
    have hb : (s.toList == s.toList) = true := by simp
    go_enter Tryz.func66, Tryz.ntmps66
    go_wp2
    go_ret
    exact ⟨rfl, rfl⟩
  · rw [if_neg e]
    have hb := eqB_false e
    go_enter Tryz.func66, Tryz.ntmps66
    go_wp2
    go_ret
    exact ⟨rfl, rfl⟩
end Go.Proofs.YticfcjmlphhpgabGreatDoor
namespace Go.Proofs.YticfcjmlphhpgabGreatDoor
open Go.RowKit

/-- Blocks of other types lie on. -/
def KT (ts : List TypeId) (w w' : World) : Prop := ∀ (k : Nat) (c : Array Value) (t : TypeId) (fz : Nat × Nat), w.heap[k]? = some (Obj.cells c t fz) → ¬ t ∈ ts → w'.heap[k]? = some (Obj.cells c t fz)
theorem KT.refl (ts : List TypeId) (w : World) : KT ts w w := fun _ _ _ _ h _ => h
theorem KT.trans {ts : List TypeId} {a b c : World} (h : KT ts a b) (k : KT ts b c) : KT ts a c := fun i cs t fz hi ht => k i cs t fz (h i cs t fz hi ht) ht
theorem KT.mono {ts ts' : List TypeId} {a b : World} (h : KT ts a b) (hs : ∀ t, t ∈ ts → t ∈ ts') : KT ts' a b := fun i cs t fz hi ht => h i cs t fz hi (fun e => ht (hs t e))
theorem KT.new {w w' : World} (ts : List TypeId) (h : Below w.heap.size w w') : KT ts w w' := fun i _ _ _ hi _ => (h.block i (lt_of_block hi)).trans hi
theorem KT.set {ts : List TypeId} {w w' : World} (h : KT ts w w') {R : Nat} {cs : Array Value} {t : TypeId} {fz : Nat × Nat} (hR : w'.heap[R]? = some (.cells cs t fz)) (ht : t ∈ ts) (j : Nat) (v : Value) : KT ts w (w'.setCell ⟨R, j, none⟩ v) := fun i c s f hi hs => by
  have h1 := h i c s f hi hs
  rw [Below.heap_setCell _ _ _ _ (fun e => by
    simp only at e
    rw [e, hR] at h1
    injection h1 with h1
    injection h1 with _ h1 _
    exact hs (h1 ▸ ht))]
  exact h1
theorem KT.grown {ts : List TypeId} {w w1 w' : World} (h : KT ts w w1) {B s n : Nat} {e : TypeId} {v : Value} {xs : List Value} (ho : w1.ownsRow B e s v n xs) (hg : w1.grownBy w' v.ownBlock) (he : e ∈ ts) : KT ts w w' := fun i c t f hi ht => by
  have h1 := h i c t f hi ht
  refine (hg.block i (lt_of_block h1) (fun e' => ?_)).trans h1
  obtain ⟨c', fz', hc⟩ := own_kind ho i e'.symm
  rw [h1] at hc
  injection hc with hc
  injection hc with _ hc _
  exact ht (hc ▸ he)
theorem KT.alloc {ts : List TypeId} {w w' : World} (h : KT ts w w') (o : Obj) : KT ts w (w'.alloc o) := fun i c t f hi ht => block_keep o (h i c t f hi ht)
theorem own_same {w w' : World} {B : Nat} {e : TypeId} {s : Nat} {v : Value} {n : Nat} {xs : List Value} (h : w.ownsRow B e s v n xs) (hk : ∀ g, v.ownBlock = some g → w'.heap[g]? = w.heap[g]?) : w'.ownsRow B e s v n xs := by
  obtain ⟨h1, h2⟩ := h
  refine ⟨h1, ?_⟩
  rcases h2 with h2 | ⟨g, cap, cur, hv, hg, hh, r⟩
  · exact .inl h2
  · subst hv
    exact .inr ⟨g, cap, cur, rfl, hg, (hk g rfl).trans hh, r⟩
theorem own_kt {ts : List TypeId} {w w' : World} {B : Nat} {e : TypeId} {s : Nat} {v : Value} {n : Nat} {xs : List Value} (h : w.ownsRow B e s v n xs) (hk : KT ts w w') (he : ¬ e ∈ ts) : w'.ownsRow B e s v n xs := own_same h fun g hg => by
  obtain ⟨c, fz, hc⟩ := own_kind h g hg
  rw [hk g c e fz hc he, hc]
theorem kt_k2 {R : Nat} {w w' : World} {B s n : Nat} {e : TypeId} {v : Value} {xs : List Value} {cs : Array Value} (ho : w.ownsRow B e s v n xs) {T : TypeId} (hR : w.heap[R]? = some (.cells cs T (0, 0))) (hk : K2 R v.ownBlock w w') (ts : List TypeId) (h1 : T ∈ ts) (h2 : e ∈ ts) : KT ts w w' := fun i c t f hi ht => by
  refine (hk i (lt_of_block hi) (fun e' => ?_) (fun e' => ?_)).trans hi
  · rw [e', hR] at hi
    injection hi with hi
    injection hi with _ hi _
    exact ht (hi ▸ h1)
  · obtain ⟨c', fz', hc⟩ := own_kind ho i e'.symm
    rw [hi] at hc
    injection hc with hc
    injection hc with _ hc _
    exact ht (hc ▸ h2)

/-- An item of the list, in memory. -/
def IsIt (w : World) (R : Nat) : It → IV → Prop
  | .word s, x => ∃ bx, x = ⟨8, .func 66, #[], #[.pointer (some ⟨bx, 0, none⟩)]⟩ ∧ w.heap[bx]? = some (.cells #[.string s] 9 (0, 0))
  | .bracket, x => x = ⟨8, .func 104, #[.pointer (some ⟨R, 0, none⟩)], #[]⟩
  | .kind, x => x = ⟨8, .func 125, #[.pointer (some ⟨R, 0, none⟩)], #[]⟩
  | .inFile, x => x = ⟨8, .func 138, #[.pointer (some ⟨R, 0, none⟩)], #[]⟩
  | .inDir, x => x = ⟨8, .func 140, #[.pointer (some ⟨R, 0, none⟩)], #[]⟩
  | .name, x => x = ⟨48, .func 143, #[.pointer (some ⟨R, 0, none⟩)], #[]⟩
  | .data, x => x = ⟨100, .func 142, #[.pointer (some ⟨R, 0, none⟩)], #[]⟩
theorem IsIt.kept {ts : List TypeId} {w w' : World} {R : Nat} {i : It} {x : IV} (h : IsIt w R i x) (hk : KT ts w w') (h9 : ¬ 9 ∈ ts) : IsIt w' R i x := by
  cases i with
  | word s => obtain ⟨bx, e, hb⟩ := h; exact ⟨bx, e, hk _ _ _ _ hb h9⟩
  | _ => exact h
def ItsAt (w : World) (R : Nat) : List It → List IV → Prop
  | [], [] => True
  | i :: r, x :: y => IsIt w R i x ∧ ItsAt w R r y
  | _, _ => False
theorem ItsAt.kept {ts : List TypeId} {w w' : World} {R : Nat} (hk : KT ts w w') (h9 : ¬ 9 ∈ ts) : ∀ {l : List It} {y : List IV}, ItsAt w R l y → ItsAt w' R l y
  | [], [], _ => trivial
  | _ :: _, _ :: _, h => ⟨h.1.kept hk h9, ItsAt.kept hk h9 h.2⟩
  | [], _ :: _, h => h.elim
  | _ :: _, [], h => h.elim
theorem ItsAt.len {w : World} {R : Nat} : ∀ {l : List It} {y : List IV}, ItsAt w R l y → y.length = l.length
  | [], [], _ => rfl
  | _ :: _, _ :: _, h => by simp [ItsAt.len h.2]
  | [], _ :: _, h => h.elim
  | _ :: _, [], h => h.elim
theorem ItsAt.app {w : World} {R : Nat} : ∀ {a b : List It} {x y : List IV}, ItsAt w R a x → ItsAt w R b y → ItsAt w R (a ++ b) (x ++ y)
  | [], _, [], _, _, hb => hb
  | _ :: _, _, _ :: _, _, ha, hb => ⟨ha.1, ItsAt.app ha.2 hb⟩
  | [], _, _ :: _, _, h, _ => h.elim
  | _ :: _, _, [], _, h, _ => h.elim
theorem tyI {T : TypeId} {ts : List TypeId} (h : T = 86 ∨ T = 88) (k : 86 ∈ ts ∧ 88 ∈ ts) : T ∈ ts := by rcases h with rfl | rfl <;> first | exact k.1 | exact k.2
theorem tyN {T : TypeId} {ts : List TypeId} (h : T = 86 ∨ T = 88) (k : ¬ 86 ∈ ts ∧ ¬ 88 ∈ ts) : ¬ T ∈ ts := by rcases h with rfl | rfl <;> first | exact k.1 | exact k.2
theorem tyD {T e : TypeId} (h : T = 86 ∨ T = 88) (k : e ≠ 86 ∧ e ≠ 88) : e ≠ T := by rcases h with rfl | rfl <;> first | exact k.1 | exact k.2
/-- What a reader is a part of: the type of its block, the cells behind its own, the items below its own. -/
structure Xt where
  ty : TypeId
  more : List Value
  tail : List IV
  ok : ty = 86 ∨ ty = 88
  tl : tail.length ≤ 1000
/-- A reader that is no part of anything. -/
def X0 : Xt := ⟨86, [], [], .inl rfl, by simp⟩
def TR : List TypeId := [86, 88]
/-- The reader in memory, as long as it goes on. -/
structure RM (X : Xt) (B R : Nat) (w : World) (left lst nds drs : Value) (pos : Nat) (list : List It) (g : Gr) : Prop where
  blk : w.heap[R]? = some (.cells ⟨left :: .int .i64 pos :: lst :: .int .i64 0 :: .int .i64 0 :: nds :: drs :: .string g.path :: X.more⟩ X.ty (0, 0))
  BR : B ≤ R
  its : ∃ ivs, ItsAt w R list ivs ∧ w.ownsRow B 92 2 lst (list.length + X.tail.length) (flatI (ivs ++ X.tail).reverse)
  nd : w.ownsRow B 43 3 nds g.nodes.length (flat3 g.nodes)
  dr : w.ownsRow B 164 2 drs g.dirs.length (flat2 g.dirs)
def TS : List TypeId := [86, 88, 92, 43, 164]
theorem RM.new {X : Xt} {B R : Nat} {w w' : World} {left lst nds drs : Value} {pos : Nat} {list : List It} {g : Gr} (h : RM X B R w left lst nds drs pos list g) (hb : Below w.heap.size w w') : RM X B R w' left lst nds drs pos list g := by
  have hk := KT.new [] hb
  obtain ⟨ivs, h1, h2⟩ := h.its
  exact ⟨(hb.block _ (lt_of_block h.blk)).trans h.blk, h.BR, ⟨ivs, h1.kept hk (by simp), own_below h2 hb⟩, own_below h.nd hb, own_below h.dr hb⟩
theorem RM.lt {X : Xt} {B R : Nat} {w : World} {left lst nds drs : Value} {pos : Nat} {list : List It} {g : Gr} (h : RM X B R w left lst nds drs pos list g) : R < w.heap.size := lt_of_block h.blk
/-- Sizes that the walks ask. -/
structure Bd (list : List It) (g : Gr) : Prop where
  ll : list.length ≤ 90000000
  ln : g.nodes.length ≤ 30
  ld : g.dirs.length ≤ 100000000
  lp : g.path.size ≤ 100000000
  np : ∀ n ∈ g.nodes, n.path.size ≤ 100000000
  dp : ∀ d ∈ g.dirs, d.1.size ≤ 100000000
/-- What a take leaves. -/
def TakePost (X : Xt) (B R : Nat) (w : World) (left : Value) (pos : Nat) (list : List It) (r : Tk) (e : Ending) (w' : World) : Prop := match r with
  | .err er => e = .returned (.int .i64 er) ∧ Below w.heap.size w w'
  | .more g' push => e = .returned (.int .i64 0) ∧ ∃ lst' nds' drs', RM X B R w' left lst' nds' drs' pos (push ++ list) g' ∧ Below B w w' ∧ KT TS w w'

/-- What Must is called with, and leaves. -/
theorem Must_rm {X : Xt} {B R : Nat} {w : World} {left lst nds drs : Value} {pos : Nat} {list : List It} {g : Gr} (h : RM X B R w left lst nds drs pos list g) (b : Nat) (push : List It) (its : List IV) (hi : ItsAt w R push its)
    (hb : w.heap[b]? = some (.cells (flatI its).toArray 92 (0, 0))) (hbv : some b ≠ lst.ownBlock) (hl : list.length + X.tail.length ≤ 100000000) (hlen : its.length ≤ 1000) :
    Calls Tryz.prog 38 #[.pointer (some ⟨R, 0, none⟩), .slice (some ⟨b, 0, none⟩) its.length its.length] w fun e w' => (∃ r, e = .returned r) ∧ ∃ lst', RM X B R w' left lst' nds drs pos (push ++ list) g ∧ Below B w w' ∧ KT TS w w' := by
  obtain ⟨ivs, h1, h2⟩ := h.its
  have hBw : B ≤ w.heap.size := by have := h.lt; have := h.BR; omega
  refine (Must_any B R b w _ _ lst X.ty _ (list.length + X.tail.length) _ its h.blk h2 h.BR hBw hb hbv (by omega) hlen (tyD X.ok (by decide)).symm).mono ?_
  rintro e w' ⟨he, v', a1, a2, a3, a4, a5⟩
  have hkt : KT [86, 88, 92] w w' := kt_k2 h2 h.blk a4 _ (tyI X.ok (by decide)) (by decide)
  refine ⟨he, v', ⟨a1, h.BR, ⟨its ++ ivs, (hi.kept hkt (by decide)).app (h1.kept hkt (by decide)), ?_⟩, own_kt h.nd hkt (by decide), own_kt h.dr hkt (by decide)⟩, a3, hkt.mono (by decide)⟩
  rw [List.append_assoc, List.reverse_append, flatI_append, List.length_append, ← hi.len, Nat.add_assoc, Nat.add_comm its.length]
  exact a2

set_option maxRecDepth 20000 in
set_option maxHeartbeats 400000 in
theorem newest_any (R gN n cap : Nat) (w : World) (hn : 0 < n) (hcap : n ≤ cap) (c5 : w.cell? ⟨R, 5, none⟩ = some (.slice (some ⟨gN, 0, none⟩) n cap)) (hl : n ≤ 1000) :
    Calls Tryz.prog 137 #[.pointer (some ⟨R, 0, none⟩)] w fun e w' => e = .returned (.pointer (some ⟨gN, (n - 1) * 3, none⟩)) ∧ ∃ q, w' = w.drewN q := by
  obtain ⟨k, rfl⟩ : ∃ k, n = k + 1 := ⟨n - 1, by omega⟩
  simp only [Nat.add_sub_cancel]
  go_enter Tryz.func137, Tryz.ntmps137
  go_wp2
  go_quiet (fail)
  go_wp2
  go_ret
  exact ⟨rfl, _, rfl⟩
end Go.Proofs.YticfcjmlphhpgabGreatDoor
namespace Go.Proofs.YticfcjmlphhpgabGreatDoor
open Go.RowKit

theorem own_slice {w : World} {base size n : Nat} {e : TypeId} {v : Value} {xs : List Value} (h : w.ownsRow base e size v n xs) : ∃ a cap, v = .slice a n cap ∧ n ≤ cap := by
  rcases h.2 with ⟨rfl, rfl⟩ | ⟨g, cap, _, hv, _, _, hn, _⟩
  · exact ⟨_, _, rfl, Nat.le_refl _⟩
  · exact ⟨_, cap, hv, hn⟩
theorem open_list : wOpen.toList = [40] := by rw [ByteArray.toList_eq]; rfl
theorem not_row {w : World} {B e s n : Nat} {v : Value} {xs : List Value} (h : w.ownsRow B e s v n xs) : some w.heap.size ≠ v.ownBlock := fun e' => by have := (h.lt _ e'.symm).2; omega
theorem drewB (w : World) : Below w.heap.size w w.drew := (Below.refl _ w).drew

theorem below_ext {B : Nat} {w a b : World} (h : Below B w a) (hB : B ≤ w.heap.size) (k : Below a.heap.size a b) : Below B w b := h.trans (k.mono (Nat.le_trans hB h.size))
theorem RM.setNodes {X : Xt} {B R : Nat} {w w3 : World} {left lst nds drs : Value} {pos : Nat} {list : List It} {g : Gr} (h : RM X B R w left lst nds drs pos list g) (hk : KT [43] w w3) (hb : Below B w w3) (nodes' : List Nd) (nds' : Value) (hown : w3.ownsRow B 43 3 nds' nodes'.length (flat3 nodes')) :
    RM X B R (w3.setCell ⟨R, 5, none⟩ nds') left lst nds' drs pos list ⟨nodes', g.dirs, g.path⟩ ∧ Below B w (w3.setCell ⟨R, 5, none⟩ nds') ∧ KT TS w (w3.setCell ⟨R, 5, none⟩ nds') := by
  have hR3 := hk _ _ _ _ h.blk (tyN X.ok (by decide))
  obtain ⟨ivs, h1, h2⟩ := h.its
  have hne : ∀ {e : TypeId} {s n : Nat} {v : Value} {xs : List Value}, w3.ownsRow B e s v n xs → e ≠ X.ty → v.ownBlock ≠ some R := fun ho he e => by
    obtain ⟨c, fz, hc⟩ := own_kind ho R e
    rw [hR3] at hc
    injection hc with hc
    injection hc with _ hc _
    exact he hc.symm
  have o1 := own_kt h2 hk (by decide)
  have o2 := own_kt h.dr hk (by decide)
  have hkR : KT TS w (w3.setCell ⟨R, 5, none⟩ nds') := KT.set (hk.mono (by decide)) hR3 (tyI X.ok (by decide)) 5 nds'
  refine ⟨⟨block_set hR3 5 nds', h.BR, ⟨ivs, ?_, ownsRow_setCell_other o1 (hne o1 (tyD X.ok (by decide))) _⟩, ownsRow_setCell_other hown (hne hown (tyD X.ok (by decide))) _, ownsRow_setCell_other o2 (hne o2 (tyD X.ok (by decide))) _⟩, hb.setCell h.BR _, hkR⟩
  exact h1.kept hkR (by decide)
theorem RM.lstNew {X : Xt} {B R : Nat} {w : World} {left lst nds drs : Value} {pos : Nat} {list : List It} {g : Gr} (h : RM X B R w left lst nds drs pos list g) : some w.heap.size ≠ lst.ownBlock := by
  obtain ⟨ivs, _, h2⟩ := h.its
  exact not_row h2

set_option maxRecDepth 20000 in
set_option maxHeartbeats 2000000 in
theorem takeBracket_any {X : Xt} {B R : Nat} {w : World} {left lst nds drs : Value} {pos : Nat} {list : List It} {g : Gr} (h : RM X B R w left lst nds drs pos list g) (hbd : Bd list g) (s : ByteArray) :
    Calls Tryz.prog 104 #[.pointer (some ⟨R, 0, none⟩), .string s] w (TakePost X B R w left pos list (takeF g .bracket s)) := by
  obtain ⟨i45, hi, hz0, hz1, hz2⟩ := info_parts Tryz.info43
  obtain ⟨T, hT⟩ : ∃ T, takeF g .bracket s = T := ⟨_, rfl⟩
  rw [hT]
  rw [take_bracket] at hT
  by_cases hs : s = wOpen
  · rw [if_pos hs] at hT
    have hsb : (s.toList == [40]) = true := by rw [hs, open_list]; rfl
    obtain ⟨aD, capD, rfl, hcD⟩ := own_slice h.dr
    have c6 : w.cell? ⟨R, 6, none⟩ = some (.slice aD g.dirs.length capD) := by simp [World.cell?, h.blk]
    by_cases h5 : 5 < g.dirs.length
    · rw [if_pos h5] at hT
      subst hT
      have h5z : (5 : Int) < g.dirs.length := by omega
      clear hs
      go_enter Tryz.func104, Tryz.ntmps104
      go_wp2
      go_ret
      exact ⟨rfl, Below.refl _ _⟩
    · rw [if_neg h5] at hT
      have h5z : ¬ (5 : Int) < g.dirs.length := by omega
      obtain ⟨aN, capN, hnd, hcN⟩ := own_slice h.nd
      have c5 : w.cell? ⟨R, 5, none⟩ = some (.slice aN g.nodes.length capN) := by simp [World.cell?, h.blk, hnd]
      by_cases h30 : 30 ≤ g.nodes.length
      · rw [if_pos h30] at hT
        subst hT
        have h30z : (30 : Int) ≤ g.nodes.length := by omega
        clear hs
        go_enter Tryz.func104, Tryz.ntmps104
        go_wp2
        go_ret
        exact ⟨rfl, Below.refl _ _⟩
      · rw [if_neg h30] at hT
        subst hT
        have h30z : ¬ (30 : Int) ≤ g.nodes.length := by omega
        have c7 : w.cell? ⟨R, 7, none⟩ = some (.string g.path) := by simp [World.cell?, h.blk]
        have f5 : w.frozen? ⟨R, 5, none⟩ = false := by simp [World.frozen?, h.blk]
        have hlt := h.lt
        have hBR := h.BR
        have hBw : B ≤ w.heap.size := by omega
        have H := hide h
        have hrow : some R ≠ nds.ownBlock := fun e => by
          obtain ⟨c, fz, hc⟩ := own_kind h.nd R e.symm
          rw [h.blk] at hc
          injection hc with hc
          injection hc with _ hc _
          exact tyD (e := 43) X.ok (by decide) hc.symm
        subst hnd
        clear hs h
        have hmf : ∀ (fn : Fn) (first cap : Array Value) (w : World), (Instr.makeFunc fn first cap).run Tryz.prog w = .ok (.func fn first cap) w := fun _ _ _ _ => rfl
        go_enter Tryz.func104, Tryz.ntmps104
        go_wp2
        go_region_law (refine step_append_own rfl (.tmp 29) (.tmp 36) 44 rfl B 43 i45 (.agg #[.string ⟨#[]⟩, .int .i64 0, .string ⟨#[]⟩]) 3 40 Tryz.underlying44 hi hz0 hz1 hz2 rfl (by decide) (.slice aN g.nodes.length capN) g.nodes.length (flat3 g.nodes) (by simp [Act.eval]) (H.out.nd.drew.alloc _) ⟨w.heap.size, 0, none⟩ 1 1 [.string g.path, .int .i64 0, .string ⟨#[]⟩] (by simp [Act.eval]) rfl (cell_three_at _ _ _ _ _ _ rfl) (fun x hx => by simp at hx; rcases hx with rfl | rfl | rfl <;> rfl) (by unfold maxLen; omega) (by omega) (by simp; try omega) ?_; intro v2 w3 hown3 hgrow3 hat3; obtain ⟨g3, cap3, rfl, hcap3⟩ := own_form hown3 (by omega); have hR3 := (hgrow3.block R (by simp; try omega) hrow).trans (block_keep (w := w.drew) _ H.out.blk); have c53 : w3.cell? ⟨R, 5, none⟩ = some (.slice aN g.nodes.length capN) := (by simp [World.cell?, hR3]); have f53 : w3.frozen? ⟨R, 5, none⟩ = false := (by simp [World.frozen?, hR3]))
        all_goals
          obtain ⟨hRM7, hB7, hK7⟩ := H.out.setNodes (((KT.new [43] (drewB w)).alloc _).grown (H.out.nd.drew.alloc _) hgrow3 (by decide)) (((Below.refl B w).drew.alloc (by show B ≤ w.heap.size; omega) _).grown hgrow3 (by simp; try omega) (fun k hk => (H.out.nd.lt k hk).1)) (g.nodes ++ [⟨g.path, 0, ⟨#[]⟩⟩]) _ (by rw [flat3_append, List.length_append]; exact hown3)
          generalize w3.setCell ⟨R, 5, none⟩ (.slice (some ⟨g3, 0, none⟩) (g.nodes.length + 1) cap3) = W7 at hRM7 hB7 hK7 ⊢
          clear hown3 hgrow3 hat3 hR3 c53 f53 c5 c6 c7 f5
          have hRM7d := hide (hRM7.new (drewB W7))
          have hsz7 := hB7.size
          clear hRM7
          go_wp2
          go_region_with (first
            | (go_at_call 39; refine (Word_any _ _).mono ?_; rintro e w4 ⟨bx, rfl, hbx, hb4⟩; have hRM8 := hide (hRM7d.out.new hb4))
            | (go_at_call 40; refine (Words_any _ _ _ _).mono ?_; rintro e w5 ⟨rfl, hb5⟩; have hRM9 := hide (hRM8.out.new hb5); have hbx5 := (hb5.block _ (lt_of_block hbx)).trans hbx)
            | (go_at_call 38; refine (Must_rm (hRM9.out.new ((Below.refl _ _).alloc (Nat.le_refl _) _)) w5.heap.size [.word wType, .kind] [⟨8, .func 66, #[], #[.pointer (some ⟨bx, 0, none⟩)]⟩, ⟨8, .func 125, #[.pointer (some ⟨R, 0, none⟩)], #[]⟩] ⟨⟨bx, rfl, block_keep _ hbx5⟩, rfl, trivial⟩ (block_new w5 _) (hRM9.out.lstNew) (by have := hbd.ll; have := X.tl; omega) (by simp)).mono ?_; rintro e w6 ⟨⟨r, rfl⟩, lst6, hRM10, hb6, hk6⟩))
          all_goals
            go_wp2
            go_ret
            refine ⟨rfl, lst6, _, _, hRM10, ?_, ?_⟩
            · exact ((below_ext (below_ext (below_ext hB7 hBw (drewB W7)) hBw hb4) hBw hb5).alloc (by have := hb5.size; have := hb4.size; have := (drewB W7).size; omega) _).trans hb6
            · exact ((((hK7.trans (KT.new TS (drewB W7))).trans (KT.new TS hb4)).trans (KT.new TS hb5)).alloc _).trans hk6
  · rw [if_neg hs] at hT
    subst hT
    have hsb : (s.toList == [40]) = false := by rw [← open_list]; exact eqB_false hs
    clear hs
    go_enter Tryz.func104, Tryz.ntmps104
    go_wp2
    go_ret
    exact ⟨rfl, Below.refl _ _⟩
end Go.Proofs.YticfcjmlphhpgabGreatDoor
namespace Go.Proofs.YticfcjmlphhpgabGreatDoor
open Go.RowKit

theorem set_same {l : List Value} {j : Nat} {v : Value} (h : l[j]? = some v) : l.set j v = l := by
  have hj := (List.getElem?_eq_some_iff.1 h)
  obtain ⟨h1, h2⟩ := hj
  rw [← h2, List.set_getElem_self]
theorem flat3_data (l : List Nd) (k : Nat) (hk : k < l.length) (s : ByteArray) : flat3 (l.set k ⟨l[k].path, l[k].kind, s⟩) = (flat3 l).set (k * 3 + 2) (.string s) := by
  obtain ⟨f0, f1, f2⟩ := flat3_get l k hk
  rw [flat3_set l k _ hk, set_same f0, set_same f1]
theorem flat3_kind (l : List Nd) (k : Nat) (hk : k < l.length) (z : Int) : flat3 (l.set k ⟨l[k].path, z, l[k].data⟩) = (flat3 l).set (k * 3 + 1) (.int .i64 z) := by
  obtain ⟨f0, f1, f2⟩ := flat3_get l k hk
  rw [flat3_set l k _ hk, set_same f0]
  exact set_same (by rw [List.getElem?_set_ne (by omega)]; exact f2)
theorem RM.rows {X : Xt} {B R : Nat} {w : World} {left lst nds drs : Value} {pos : Nat} {list : List It} {g : Gr} (h : RM X B R w left lst nds drs pos list g) {e : TypeId} {s n : Nat} {v : Value} {xs : List Value} (ho : w.ownsRow B e s v n xs) (he : e ≠ X.ty) : v.ownBlock ≠ some R := fun e' => by
  obtain ⟨c, fz, hc⟩ := own_kind ho R e'
  rw [h.blk] at hc
  injection hc with hc
  injection hc with _ hc _
  exact he hc.symm
/-- A cell of a node is stored. -/
theorem RM.node {X : Xt} {B R : Nat} {w : World} {left lst drs : Value} {gN n cap : Nat} {pos : Nat} {list : List It} {g : Gr} (h : RM X B R w left lst (.slice (some ⟨gN, 0, none⟩) n cap) drs pos list g) (j : Nat) (v : Value) (nodes' : List Nd) (hlen : nodes'.length = g.nodes.length) (hf : flat3 nodes' = (flat3 g.nodes).set j v) :
    RM X B R (w.setCell ⟨gN, j, none⟩ v) left lst (.slice (some ⟨gN, 0, none⟩) n cap) drs pos list ⟨nodes', g.dirs, g.path⟩ ∧ Below B w (w.setCell ⟨gN, j, none⟩ v) ∧ KT TS w (w.setCell ⟨gN, j, none⟩ v) := by
  obtain ⟨cN, fN, hN⟩ := own_kind h.nd gN rfl
  have hRg : R ≠ gN := fun e => h.rows h.nd (tyD X.ok (by decide)) (by simp [Value.ownBlock, e])
  have hk : KT TS w (w.setCell ⟨gN, j, none⟩ v) := (KT.refl TS w).set hN (by decide) j v
  obtain ⟨ivs, h1, h2⟩ := h.its
  have hne : ∀ {e : TypeId} {s n : Nat} {u : Value} {xs : List Value}, w.ownsRow B e s u n xs → e ≠ 43 → u.ownBlock ≠ some gN := fun ho he e' => by
    obtain ⟨c, fz, hc⟩ := own_kind ho gN e'
    rw [hN] at hc
    injection hc with hc
    injection hc with _ hc _
    exact he hc.symm
  obtain rfl : n = g.nodes.length := by
    obtain ⟨a, c, hv, _⟩ := own_slice h.nd
    injection hv
  obtain ⟨o1, _⟩ := h.nd.stored j v
  refine ⟨⟨?_, h.BR, ⟨ivs, h1.kept hk (by decide), ownsRow_setCell_other h2 (hne h2 (by decide)) _⟩, ?_, ownsRow_setCell_other h.dr (hne h.dr (by decide)) _⟩, (Below.refl B w).setCell ((h.nd.lt gN rfl).1) _, hk⟩
  · rw [Below.heap_setCell _ _ _ _ hRg]; exact h.blk
  · rw [hlen, hf]; exact o1
theorem lastN_get (l : List Nd) (k : Nat) (h : l.length = k + 1) : lastN l = l[k]'(by omega) := by simp [lastN, h, List.getD]
theorem setN_set (l : List Nd) (k : Nat) (h : l.length = k + 1) (x : Nd) : setN l x = l.set k x := by simp [setN, h]
theorem drewNB (w : World) (q : Nat) : Below w.heap.size w (w.drewN q) := below_drewN (Below.refl _ w) q

set_option maxRecDepth 20000 in
set_option maxHeartbeats 1000000 in
theorem takeData_any {X : Xt} {B R : Nat} {w : World} {left lst nds drs : Value} {pos : Nat} {list : List It} {g : Gr} (h : RM X B R w left lst nds drs pos list g) (hbd : Bd list g) (hne : g.nodes ≠ []) (s : ByteArray) (hs : s.size ≤ 1000000) :
    Calls Tryz.prog 142 #[.pointer (some ⟨R, 0, none⟩), .string s] w (TakePost X B R w left pos list (takeF g .data s)) := by
  obtain ⟨k, hk⟩ : ∃ k, g.nodes.length = k + 1 := ⟨g.nodes.length - 1, by have := List.length_pos_iff.2 hne; omega⟩
  have hk30 := hbd.ln
  obtain ⟨gN, capN, rfl, hcN⟩ := own_form h.nd (by omega)
  rw [hk] at hcN
  have hk' : k < g.nodes.length := by omega
  obtain ⟨x, hx⟩ : ∃ x, g.nodes[k] = x := ⟨_, rfl⟩
  obtain ⟨T, hT⟩ : ∃ T, takeF g .data s = T := ⟨_, rfl⟩
  rw [hT]
  rw [take_data, lastN_get _ k hk, setN_set _ k hk, hx] at hT
  have c5 : w.cell? ⟨R, 5, none⟩ = some (.slice (some ⟨gN, 0, none⟩) (k + 1) capN) := by simp [World.cell?, h.blk, hk]
  have cN := hide (newest_any R gN (k + 1) capN w (by omega) hcN c5 (by omega))
  simp only [Nat.add_sub_cancel] at cN
  obtain ⟨f0, f1, f2⟩ := flat3_get g.nodes k hk'
  rw [hx] at f0 f1 f2
  have H := hide h
  have hrow := h.nd
  rw [hk] at hrow
  have d1 : ∀ q, (w.drewN q).cell? ⟨gN, k * 3 + 1, none⟩ = some (.int .i64 x.kind) := fun q => (own_drewN hrow q).cellAt (k * 3 + 1) (by omega) |>.trans f1
  have d2 : ∀ q, (w.drewN q).cell? ⟨gN, k * 3 + 2, none⟩ = some (.string x.data) := fun q => (own_drewN hrow q).cellAt (k * 3 + 2) (by omega) |>.trans f2
  have z2 : ∀ q, (w.drewN q).frozen? ⟨gN, k * 3 + 2, none⟩ = false := fun q => (own_drewN hrow q).frozenAt (k * 3 + 2)
  clear h hne hrow f0 f1 f2
  by_cases hf : fits x.kind s.data.toList = true
  · rw [if_pos hf] at hT
    subst hT
    go_enter Tryz.func142, Tryz.ntmps142
    go_wp2_with fail
    refine cN.out.mono ?_
    rintro e w1 ⟨rfl, q, rfl⟩
    have e1 := d1 q
    have e2 := d2 q
    have y2 := z2 q
    have hRM1 := hide (H.out.new (drewNB w q))
    have hB1 : Below B w (w.drewN q) := (drewNB w q).mono (by have := H.out.lt; have := H.out.BR; omega)
    have hK1 : KT TS w (w.drewN q) := KT.new TS (drewNB w q)
    generalize w.drewN q = w1 at e1 e2 y2 hRM1 hB1 hK1
    clear cN d1 d2 z2
    go_wp2_with fail
    refine (dataFits_any x.kind s w1 (by omega)).mono ?_
    rintro e w2 ⟨rfl, rfl⟩
    rw [hf]
    go_wp2
    go_ret
    have hfl := flat3_data g.nodes k hk' s
    rw [hx] at hfl
    obtain ⟨a1, a2, a3⟩ := hRM1.out.node (k * 3 + 2) (.string s) (g.nodes.set k ⟨x.path, x.kind, s⟩) (by rw [List.length_set]) hfl
    exact ⟨rfl, _, _, _, a1, hB1.trans a2, hK1.trans a3⟩
  · rw [if_neg hf] at hT
    subst hT
    have hf' : fits x.kind s.data.toList = false := by simpa using hf
    go_enter Tryz.func142, Tryz.ntmps142
    go_wp2_with fail
    refine cN.out.mono ?_
    rintro e w1 ⟨rfl, q, rfl⟩
    have e1 := d1 q
    have hb1 := drewNB w q
    generalize w.drewN q = w1 at e1 hb1
    clear cN d1 d2 z2
    go_wp2_with fail
    refine (dataFits_any x.kind s w1 (by omega)).mono ?_
    rintro e w2 ⟨rfl, rfl⟩
    rw [hf']
    go_wp2
    go_ret
    exact ⟨rfl, hb1⟩
end Go.Proofs.YticfcjmlphhpgabGreatDoor
