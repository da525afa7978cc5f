/-
  WALKS of the reader, 6: the reader in memory; its newest node; a bracket is taken.
-/
import Derived.Test.YtpbjdfobbnpjfaaDoorC5
namespace Go.Proofs.YtpbjdfobbnpjfaaDoor
open Go.RowKit

/-- Blocks of other types lie on. -/
def KT (ts : List TypeId) (w w' : World) : Prop := ∀ (k : Nat) (c : Array Value) (t : TypeId) (fz : Nat × Nat), w.heap[k]? = some (Obj.cells c t fz) → ¬ t ∈ ts → w'.heap[k]? = some (Obj.cells c t fz)
theorem KT.refl (ts : List TypeId) (w : World) : KT ts w w := fun _ _ _ _ h _ => h
theorem KT.trans {ts : List TypeId} {a b c : World} (h : KT ts a b) (k : KT ts b c) : KT ts a c := fun i cs t fz hi ht => k i cs t fz (h i cs t fz hi ht) ht
theorem KT.mono {ts ts' : List TypeId} {a b : World} (h : KT ts a b) (hs : ∀ t, t ∈ ts → t ∈ ts') : KT ts' a b := fun i cs t fz hi ht => h i cs t fz hi (fun e => ht (hs t e))
theorem KT.new {w w' : World} (ts : List TypeId) (h : Below w.heap.size w w') : KT ts w w' := fun i _ _ _ hi _ => (h.block i (lt_of_block hi)).trans hi
theorem KT.set {ts : List TypeId} {w w' : World} (h : KT ts w w') {R : Nat} {cs : Array Value} {t : TypeId} {fz : Nat × Nat} (hR : w'.heap[R]? = some (.cells cs t fz)) (ht : t ∈ ts) (j : Nat) (v : Value) : KT ts w (w'.setCell ⟨R, j, none⟩ v) := fun i c s f hi hs => by
  have h1 := h i c s f hi hs
  rw [Below.heap_setCell _ _ _ _ (fun e => by
    simp only at e
    rw [e, hR] at h1
    injection h1 with h1
    injection h1 with _ h1 _
    exact hs (h1 ▸ ht))]
  exact h1
theorem KT.grown {ts : List TypeId} {w w1 w' : World} (h : KT ts w w1) {B s n : Nat} {e : TypeId} {v : Value} {xs : List Value} (ho : w1.ownsRow B e s v n xs) (hg : w1.grownBy w' v.ownBlock) (he : e ∈ ts) : KT ts w w' := fun i c t f hi ht => by
  have h1 := h i c t f hi ht
  refine (hg.block i (lt_of_block h1) (fun e' => ?_)).trans h1
  obtain ⟨c', fz', hc⟩ := own_kind ho i e'.symm
  rw [h1] at hc
  injection hc with hc
  injection hc with _ hc _
  exact ht (hc ▸ he)
theorem KT.alloc {ts : List TypeId} {w w' : World} (h : KT ts w w') (o : Obj) : KT ts w (w'.alloc o) := fun i c t f hi ht => block_keep o (h i c t f hi ht)
theorem KT.drewN {ts : List TypeId} {w w' : World} (h : KT ts w w') (q : Nat) : KT ts w (w'.drewN q) := h.trans (KT.new ts (below_drewN (Below.refl _ _) q))
theorem own_same {w w' : World} {B : Nat} {e : TypeId} {s : Nat} {v : Value} {n : Nat} {xs : List Value} (h : w.ownsRow B e s v n xs) (hk : ∀ g, v.ownBlock = some g → w'.heap[g]? = w.heap[g]?) : w'.ownsRow B e s v n xs := by
  obtain ⟨h1, h2⟩ := h
  refine ⟨h1, ?_⟩
  rcases h2 with h2 | ⟨g, cap, cur, hv, hg, hh, r⟩
  · exact .inl h2
  · subst hv
    exact .inr ⟨g, cap, cur, rfl, hg, (hk g rfl).trans hh, r⟩
theorem own_kt {ts : List TypeId} {w w' : World} {B : Nat} {e : TypeId} {s : Nat} {v : Value} {n : Nat} {xs : List Value} (h : w.ownsRow B e s v n xs) (hk : KT ts w w') (he : ¬ e ∈ ts) : w'.ownsRow B e s v n xs := own_same h fun g hg => by
  obtain ⟨c, fz, hc⟩ := own_kind h g hg
  rw [hk g c e fz hc he, hc]
theorem kt_k2 {R : Nat} {w w' : World} {B s n : Nat} {e : TypeId} {v : Value} {xs : List Value} {cs : Array Value} (ho : w.ownsRow B e s v n xs) (hR : w.heap[R]? = some (.cells cs 61 (0, 0))) (hk : K2 R v.ownBlock w w') (ts : List TypeId) (h1 : 61 ∈ ts) (h2 : e ∈ ts) : KT ts w w' := fun i c t f hi ht => by
  refine (hk i (lt_of_block hi) (fun e' => ?_) (fun e' => ?_)).trans hi
  · rw [e', hR] at hi
    injection hi with hi
    injection hi with _ hi _
    exact ht (hi ▸ h1)
  · obtain ⟨c', fz', hc⟩ := own_kind ho i e'.symm
    rw [hi] at hc
    injection hc with hc
    injection hc with _ hc _
    exact ht (hc ▸ h2)

/-- An item of the list, in memory. -/
def IsIt (w : World) (R : Nat) : It → IV → Prop
  | .word s, x => ∃ bx, x = ⟨8, .func 45, #[], #[.pointer (some ⟨bx, 0, none⟩)]⟩ ∧ w.heap[bx]? = some (.cells #[.string s] 9 (0, 0))
  | .bracket, x => x = ⟨8, .func 33, #[.pointer (some ⟨R, 0, none⟩)], #[]⟩
  | .kind, x => x = ⟨8, .func 46, #[.pointer (some ⟨R, 0, none⟩)], #[]⟩
  | .inFile, x => x = ⟨8, .func 54, #[.pointer (some ⟨R, 0, none⟩)], #[]⟩
  | .inDir, x => x = ⟨8, .func 56, #[.pointer (some ⟨R, 0, none⟩)], #[]⟩
  | .name, x => x = ⟨48, .func 63, #[.pointer (some ⟨R, 0, none⟩)], #[]⟩
  | .data, x => x = ⟨100, .func 62, #[.pointer (some ⟨R, 0, none⟩)], #[]⟩
theorem IsIt.kept {ts : List TypeId} {w w' : World} {R : Nat} {i : It} {x : IV} (h : IsIt w R i x) (hk : KT ts w w') (h9 : ¬ 9 ∈ ts) : IsIt w' R i x := by
  cases i with
  | word s => obtain ⟨bx, e, hb⟩ := h; exact ⟨bx, e, hk _ _ _ _ hb h9⟩
  | _ => exact h
def ItsAt (w : World) (R : Nat) : List It → List IV → Prop
  | [], [] => True
  | i :: r, x :: y => IsIt w R i x ∧ ItsAt w R r y
  | _, _ => False
theorem ItsAt.kept {ts : List TypeId} {w w' : World} {R : Nat} (hk : KT ts w w') (h9 : ¬ 9 ∈ ts) : ∀ {l : List It} {y : List IV}, ItsAt w R l y → ItsAt w' R l y
  | [], [], _ => trivial
  | _ :: _, _ :: _, h => ⟨h.1.kept hk h9, ItsAt.kept hk h9 h.2⟩
  | [], _ :: _, h => h.elim
  | _ :: _, [], h => h.elim
theorem ItsAt.len {w : World} {R : Nat} : ∀ {l : List It} {y : List IV}, ItsAt w R l y → y.length = l.length
  | [], [], _ => rfl
  | _ :: _, _ :: _, h => by simp [ItsAt.len h.2]
  | [], _ :: _, h => h.elim
  | _ :: _, [], h => h.elim
theorem ItsAt.app {w : World} {R : Nat} : ∀ {a b : List It} {x y : List IV}, ItsAt w R a x → ItsAt w R b y → ItsAt w R (a ++ b) (x ++ y)
  | [], _, [], _, _, hb => hb
  | _ :: _, _, _ :: _, _, ha, hb => ⟨ha.1, ItsAt.app ha.2 hb⟩
  | [], _, _ :: _, _, h, _ => h.elim
  | _ :: _, _, [], _, h, _ => h.elim
/-- The reader in memory, as long as it goes on. -/
structure RM (B R : Nat) (w : World) (left lst nds drs : Value) (pos : Nat) (list : List It) (g : Gr) : Prop where
  blk : w.heap[R]? = some (.cells #[left, .int .i64 pos, lst, .int .i64 0, .int .i64 0, nds, drs, .string g.path] 61 (0, 0))
  BR : B ≤ R
  its : ∃ ivs, ItsAt w R list ivs ∧ w.ownsRow B 75 2 lst list.length (flatI ivs.reverse)
  nd : w.ownsRow B 37 3 nds g.nodes.length (flat3 g.nodes)
  dr : w.ownsRow B 87 2 drs g.dirs.length (flat2 g.dirs)
def TS : List TypeId := [61, 75, 37, 87]
theorem RM.new {B R : Nat} {w w' : World} {left lst nds drs : Value} {pos : Nat} {list : List It} {g : Gr} (h : RM B R w left lst nds drs pos list g) (hb : Below w.heap.size w w') : RM B R w' left lst nds drs pos list g := by
  have hk := KT.new [] hb
  obtain ⟨ivs, h1, h2⟩ := h.its
  exact ⟨(hb.block _ (lt_of_block h.blk)).trans h.blk, h.BR, ⟨ivs, h1.kept hk (by simp), own_below h2 hb⟩, own_below h.nd hb, own_below h.dr hb⟩
theorem RM.lt {B R : Nat} {w : World} {left lst nds drs : Value} {pos : Nat} {list : List It} {g : Gr} (h : RM B R w left lst nds drs pos list g) : R < w.heap.size := lt_of_block h.blk
/-- Sizes that the walks ask. -/
structure Bd (list : List It) (g : Gr) : Prop where
  ll : list.length ≤ 100000000
  ln : g.nodes.length ≤ 30
  ld : g.dirs.length ≤ 100000000
  lp : g.path.size ≤ 100000000
  np : ∀ n ∈ g.nodes, n.path.size ≤ 100000000
  dp : ∀ d ∈ g.dirs, d.1.size ≤ 100000000
/-- What a take leaves. -/
def TakePost (B R : Nat) (w : World) (left : Value) (pos : Nat) (list : List It) (r : Tk) (e : Ending) (w' : World) : Prop := match r with
  | .err er => e = .returned (.int .i64 er) ∧ Below w.heap.size w w'
  | .more g' push => e = .returned (.int .i64 0) ∧ ∃ lst' nds' drs', RM B R w' left lst' nds' drs' pos (push ++ list) g' ∧ Below B w w' ∧ KT TS w w'

/-- What Must is called with, and leaves. -/
theorem Must_rm {B R : Nat} {w : World} {left lst nds drs : Value} {pos : Nat} {list : List It} {g : Gr} (h : RM B R w left lst nds drs pos list g) (b : Nat) (push : List It) (its : List IV) (hi : ItsAt w R push its)
    (hb : w.heap[b]? = some (.cells (flatI its).toArray 75 (0, 0))) (hbv : some b ≠ lst.ownBlock) (hl : list.length ≤ 100000000) (hlen : its.length ≤ 1000) :
    Calls Tryd.prog 30 #[.pointer (some ⟨R, 0, none⟩), .slice (some ⟨b, 0, none⟩) its.length its.length] w fun e w' => (∃ r, e = .returned r) ∧ ∃ lst', RM B R w' left lst' nds drs pos (push ++ list) g ∧ Below B w w' ∧ KT TS w w' := by
  obtain ⟨ivs, h1, h2⟩ := h.its
  have hBw : B ≤ w.heap.size := by have := h.lt; have := h.BR; omega
  refine (Must_any B R b w _ _ _ _ _ _ _ lst list.length _ its h.blk h2 h.BR hBw hb hbv (by omega) hlen).mono ?_
  rintro e w' ⟨he, v', a1, a2, a3, a4, a5⟩
  have hkt : KT [61, 75] w w' := kt_k2 h2 h.blk a4 _ (by decide) (by decide)
  refine ⟨he, v', ⟨a1, h.BR, ⟨its ++ ivs, (hi.kept hkt (by decide)).app (h1.kept hkt (by decide)), ?_⟩, own_kt h.nd hkt (by decide), own_kt h.dr hkt (by decide)⟩, a3, hkt.mono (by decide)⟩
  rw [List.reverse_append, flatI_append, List.length_append, ← hi.len, Nat.add_comm]
  exact a2

set_option maxRecDepth 20000 in
set_option maxHeartbeats 400000 in
theorem newest_any (R gN n cap : Nat) (w : World) (hn : 0 < n) (hcap : n ≤ cap) (c5 : w.cell? ⟨R, 5, none⟩ = some (.slice (some ⟨gN, 0, none⟩) n cap)) (hl : n ≤ 1000) :
    Calls Tryd.prog 53 #[.pointer (some ⟨R, 0, none⟩)] w fun e w' => e = .returned (.pointer (some ⟨gN, (n - 1) * 3, none⟩)) ∧ ∃ q, w' = w.drewN q := by
  obtain ⟨k, rfl⟩ : ∃ k, n = k + 1 := ⟨n - 1, by omega⟩
  simp only [Nat.add_sub_cancel]
  go_enter Tryd.func53, Tryd.ntmps53
  go_wp2
  go_quiet (fail)
  go_wp2
  go_ret
  exact ⟨rfl, _, rfl⟩
end Go.Proofs.YtpbjdfobbnpjfaaDoor
