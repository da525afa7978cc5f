import Derived.Test.YticfcjmlphhpgabGreatDoorB04
import Derived.Test.YticfcjmlphhpgabGreatDoorB08
import Derived.Test.YticfcjmlphhpgabGreatDoorB09
namespace Go.Proofs.YticfcjmlphhpgabGreatDoor
open Go.RowKit

set_option maxRecDepth 20000 in
set_option maxHeartbeats 400000 in
theorem Place_any (R : Nat) (pos : Int) (w : World) (c1 : w.cell? ⟨R, 1, none⟩ = some (.int .i64 pos)) : Calls Tryz.prog 69 #[.pointer (some ⟨R, 0, none⟩)] w fun e w' => e = .returned (.int .i64 pos) ∧ w' = w := by
  go_enter Tryz.func69, Tryz.ntmps69
  go_wp2
  go_ret
  exact ⟨rfl, rfl⟩
set_option maxRecDepth 20000 in
set_option maxHeartbeats 400000 in
theorem Left_any (R : Nat) (a : Option Addr) (n cap : Nat) (w : World) (c0 : w.cell? ⟨R, 0, none⟩ = some (.slice a n cap)) : Calls Tryz.prog 70 #[.pointer (some ⟨R, 0, none⟩)] w fun e w' => e = .returned (.int .i64 n) ∧ w' = w := by
  go_enter Tryz.func70, Tryz.ntmps70
  go_wp2
  go_ret
  exact ⟨rfl, rfl⟩
set_option maxRecDepth 20000 in
set_option maxHeartbeats 400000 in
theorem Cut_short (R : Nat) (a : Option Addr) (n cap : Nat) (m : Int) (w : World) (c0 : w.cell? ⟨R, 0, none⟩ = some (.slice a n cap)) (hn : n < 8) : Calls Tryz.prog 106 #[.pointer (some ⟨R, 0, none⟩), .int .i64 m] w fun e w' => e = .returned (.tuple #[.string ⟨#[]⟩, .int .i64 2]) ∧ w' = w := by
  have hz : (n : Int) < 8 := by omega
  go_enter Tryz.func106, Tryz.ntmps106
  go_wp2
  go_ret2
  exact ⟨rfl, rfl⟩
/-- A reader that has failed. -/
def RBad (T : TypeId) (B R : Nat) (w : World) (e : Int) (p : Nat) : Prop := B ≤ R ∧ ∃ x5 x6 x7 m, w.heap[R]? = some (.cells ⟨.slice none 0 0 :: .int .i64 0 :: .slice none 0 0 :: .int .i64 e :: .int .i64 p :: x5 :: x6 :: x7 :: m⟩ T (0, 0))
set_option maxRecDepth 20000 in
set_option maxHeartbeats 1000000 in
theorem fail_any (T : TypeId) (hT : T = 86 ∨ T = 88) (B R : Nat) (w : World) (x0 x1 x2 x3 x4 x5 x6 x7 : Value) (m : List Value) (hR : w.heap[R]? = some (.cells ⟨x0 :: x1 :: x2 :: x3 :: x4 :: x5 :: x6 :: x7 :: m⟩ T (0, 0))) (hB : B ≤ R) (er : Int) (p : Nat) :
    Calls Tryz.prog 105 #[.pointer (some ⟨R, 0, none⟩), .int .i64 er, .int .i64 p] w fun e w' => (∃ r, e = .returned r) ∧ RBad T B R w' er p ∧ Below B w w' ∧ KT TR w w' := by
  have c0 : w.cell? ⟨R, 0, none⟩ = some x0 := by simp [World.cell?, hR]
  have c1 : w.cell? ⟨R, 1, none⟩ = some x1 := by simp [World.cell?, hR]
  have c2 : w.cell? ⟨R, 2, none⟩ = some x2 := by simp [World.cell?, hR]
  have c3 : w.cell? ⟨R, 3, none⟩ = some x3 := by simp [World.cell?, hR]
  have c4 : w.cell? ⟨R, 4, none⟩ = some x4 := by simp [World.cell?, hR]
  have f0 : w.frozen? ⟨R, 0, none⟩ = false := by simp [World.frozen?, hR]
  have f1 : w.frozen? ⟨R, 1, none⟩ = false := by simp [World.frozen?, hR]
  have f2 : w.frozen? ⟨R, 2, none⟩ = false := by simp [World.frozen?, hR]
  have f3 : w.frozen? ⟨R, 3, none⟩ = false := by simp [World.frozen?, hR]
  have f4 : w.frozen? ⟨R, 4, none⟩ = false := by simp [World.frozen?, hR]
  have HT := hide (tyI (ts := TR) hT (by decide))
  have HR := hide hR
  clear hT hR
  go_enter Tryz.func105, Tryz.ntmps105
  go_wp2
  go_end0
  have b0 := block_set HR.out 0 (.slice none 0 0)
  have b1 := block_set b0 1 (.int .i64 0)
  have b2 := block_set b1 2 (.slice none 0 0)
  have b3 := block_set b2 3 (.int .i64 er)
  have b4 := block_set b3 4 (.int .i64 p)
  refine ⟨⟨_, rfl⟩, ⟨hB, x5, x6, x7, m, b4⟩, ?_, ?_⟩
  · exact (((((Below.refl B w).setCell hB _).setCell hB _).setCell hB _).setCell hB _).setCell hB _
  · exact (((((KT.refl TR w).set HR.out HT.out _ _).set b0 HT.out _ _).set b1 HT.out _ _).set b2 HT.out _ _).set b3 HT.out _ _

/-- The bytes that are left, in memory. -/
def LeftAt (w : World) (v : Value) (l : Bs) : Prop := ∃ a cap, v = .slice a l.length cap ∧ l.length ≤ cap ∧ (a = none → cap = 0) ∧ (∀ x, a = some x → x.spot = none) ∧ (0 < l.length → ∃ g o c fz, a = some ⟨g, o, none⟩ ∧ w.heap[g]? = some (.cells c 5 fz) ∧ BytesAt w g o l)
theorem LeftAt.kept {ts : List TypeId} {w w' : World} {v : Value} {l : Bs} (h : LeftAt w v l) (hk : KT ts w w') (h5 : ¬ 5 ∈ ts) : LeftAt w' v l := by
  obtain ⟨a, cap, e, hc, hz, hy, hb⟩ := h
  refine ⟨a, cap, e, hc, hz, hy, fun hl => ?_⟩
  obtain ⟨g, o, c, fz, ea, hg, hB⟩ := hb hl
  have hg' := hk _ _ _ _ hg h5
  refine ⟨g, o, c, fz, ea, hg', fun i hi => ?_⟩
  have := hB i hi
  simp only [World.cell?, hg] at this
  simp only [World.cell?, hg']
  exact this
/-- A reader in memory, whatever must come. -/
structure RdS (T : TypeId) (B R : Nat) (w : World) (left lst n d p : Value) (pos : Nat) (ivs : List IV) (m : List Value) : Prop where
  blk : w.heap[R]? = some (.cells ⟨left :: .int .i64 pos :: lst :: .int .i64 0 :: .int .i64 0 :: n :: d :: p :: m⟩ T (0, 0))
  BR : B ≤ R
  its : w.ownsRow B 92 2 lst ivs.length (flatI ivs.reverse)
  ok : T = 86 ∨ T = 88
section
variable {T : TypeId} {B R : Nat} {w : World} {left lst n d p : Value} {pos : Nat} {ivs : List IV} {m : List Value}
theorem RdS.lt (h : RdS T B R w left lst n d p pos ivs m) : R < w.heap.size := lt_of_block h.blk
theorem RdS.new {w' : World} (h : RdS T B R w left lst n d p pos ivs m) (hb : Below w.heap.size w w') : RdS T B R w' left lst n d p pos ivs m :=
  ⟨(hb.block _ h.lt).trans h.blk, h.BR, own_below h.its hb, h.ok⟩
theorem RdS.setCut (h : RdS T B R w left lst n d p pos ivs m) (left' : Value) (pos' : Nat) :
    RdS T B R ((w.setCell ⟨R, 0, none⟩ left').setCell ⟨R, 1, none⟩ (.int .i64 pos')) left' lst n d p pos' ivs m ∧ Below B w ((w.setCell ⟨R, 0, none⟩ left').setCell ⟨R, 1, none⟩ (.int .i64 pos')) ∧ KT TR w ((w.setCell ⟨R, 0, none⟩ left').setCell ⟨R, 1, none⟩ (.int .i64 pos')) := by
  have b0 := block_set h.blk 0 left'
  have hT := tyI (ts := TR) h.ok (by decide)
  have hk : KT TR w ((w.setCell ⟨R, 0, none⟩ left').setCell ⟨R, 1, none⟩ (.int .i64 pos')) := ((KT.refl TR w).set h.blk hT _ _).set b0 hT _ _
  exact ⟨⟨block_set b0 1 _, h.BR, own_kt h.its hk (by decide), h.ok⟩, ((Below.refl B w).setCell h.BR _).setCell h.BR _, hk⟩
theorem RdS.pop {gL k cap : Nat} {x : IV} {y : List IV} (h : RdS T B R w left (.slice (some ⟨gL, 0, none⟩) k cap) n d p pos (x :: y) m) :
    RdS T B R (w.setCell ⟨R, 2, none⟩ (.slice (some ⟨gL, 0, none⟩) y.length cap)) left (.slice (some ⟨gL, 0, none⟩) y.length cap) n d p pos y m ∧ Below B w (w.setCell ⟨R, 2, none⟩ (.slice (some ⟨gL, 0, none⟩) y.length cap)) ∧ KT TR w (w.setCell ⟨R, 2, none⟩ (.slice (some ⟨gL, 0, none⟩) y.length cap)) := by
  have hk : KT TR w (w.setCell ⟨R, 2, none⟩ (.slice (some ⟨gL, 0, none⟩) y.length cap)) := (KT.refl TR w).set h.blk (tyI h.ok (by decide)) _ _
  have h2 := h.its
  obtain rfl : k = (x :: y).length := by
    obtain ⟨a, c, hv, _⟩ := own_slice h2
    injection hv
  have o1 := own_take h2 (m := y.length) (by simp)
  rw [flatI_take] at o1
  have e : (x :: y).reverse.take y.length = y.reverse := by
    rw [List.reverse_cons]; exact List.take_left' (by rw [List.length_reverse])
  rw [e] at o1
  exact ⟨⟨block_set h.blk 2 _, h.BR, own_kt o1 hk (by decide), h.ok⟩, (Below.refl B w).setCell h.BR _, hk⟩
/-- Cut, on the reader. -/
def CutPost (T : TypeId) (B R : Nat) (W : World) (lst n d p : Value) (pos : Nat) (ivs : List IV) (m : List Value) (r : Ct) (w' : World) : Prop := match r with
  | .ok _ rest c => ∃ left', RdS T B R w' left' lst n d p (pos + c) ivs m ∧ LeftAt w' left' rest ∧ Below B W w' ∧ KT TR W w'
  | _ => Below W.heap.size W w'
theorem Cut_rs (h : RdS T B R w left lst n d p pos ivs m) (l : Bs) (hL : LeftAt w left l) (most : Nat) (hl : l.length ≤ 100000000) (hp : pos ≤ 100000000) (hm : most ≤ 100) :
    Calls Tryz.prog 106 #[.pointer (some ⟨R, 0, none⟩), .int .i64 most] w fun e w' => e = .returned (cutRes (cutF l most)) ∧ CutPost T B R w lst n d p pos ivs m (cutF l most) w' := by
  obtain ⟨a, cap, rfl, hc, hz, hy, hb⟩ := hL
  have c0 : w.cell? ⟨R, 0, none⟩ = some (.slice a l.length cap) := by simp [World.cell?, h.blk]
  have c1 : w.cell? ⟨R, 1, none⟩ = some (.int .i64 pos) := by simp [World.cell?, h.blk]
  have f0 : w.frozen? ⟨R, 0, none⟩ = false := by simp [World.frozen?, h.blk]
  have f1 : w.frozen? ⟨R, 1, none⟩ = false := by simp [World.frozen?, h.blk]
  by_cases h8 : l.length < 8
  · have e : cutF l most = .wait := by unfold cutF; rw [if_pos h8]
    rw [e]
    refine (Cut_short R a l.length cap most w c0 h8).mono ?_
    rintro e w' ⟨rfl, rfl⟩
    exact ⟨rfl, Below.refl _ _⟩
  · obtain ⟨gB, o, c, fz, rfl, hg, hB⟩ := hb (by omega)
    have hne : R ≠ gB := fun e => by
      rw [← e, h.blk] at hg
      injection hg with hg
      injection hg with _ hg _
      exact tyD (e := 5) h.ok (by decide) hg.symm
    refine (Cut_any w R gB o cap most l pos c0 c1 f0 f1 hB hc (by omega) (by omega) hm hne).mono ?_
    rintro e w' ⟨rfl, q, hq⟩
    refine ⟨rfl, ?_⟩
    cases hcut : cutF l most with
    | wait => rw [hcut] at hq; simp only at hq; subst hq; exact drewNB w q
    | bad er => rw [hcut] at hq; simp only at hq; subst hq; exact drewNB w q
    | ok s rest n' =>
      rw [hcut] at hq
      obtain ⟨o', cap', rfl, hB', hc'⟩ := hq
      have hq' := drewNB w q
      obtain ⟨a1, a2, a3⟩ := (h.new hq').setCut (.slice (some ⟨gB, o', none⟩) rest.length cap') (pos + n')
      have hkk := (KT.new TR hq').trans a3
      refine ⟨_, a1, ⟨_, cap', rfl, hc', (fun h => by cases h), (fun x h => by cases h; rfl), fun _ => ⟨gB, o', c, fz, rfl, hkk _ _ _ _ hg (by decide), fun i hi => ?_⟩⟩, ((hq'.mono (by have := h.lt; have := h.BR; omega)).trans a2), hkk⟩
      have hg' := hkk _ _ _ _ hg (by decide)
      have := hB' i hi
      simp only [World.cell?, hg] at this
      simp only [World.cell?, hg']
      exact this
end
end Go.Proofs.YticfcjmlphhpgabGreatDoor
namespace Go.Proofs.YticfcjmlphhpgabGreatDoor
open Go.RowKit

theorem cutF_bad {l : Bs} {m : Nat} {e : Int} (h : cutF l m = .bad e) : e = 3 ∨ e = 4 := by
  unfold cutF at h
  split at h
  · cases h
  · split at h
    · injection h with h; exact .inl h.symm
    · split at h
      · cases h
      · split at h
        · cases h
        · injection h with h; exact .inr h.symm
theorem two_cells {w : World} {b : Nat} {x y : Value} {t : TypeId} (h : w.heap[b]? = some (.cells #[x, y] t (0, 0))) : w.cell? ⟨b, 0, none⟩ = some x ∧ w.cell? ⟨b, 1, none⟩ = some y := by simp [World.cell?, h]
theorem tabs_B {B : Nat} {w w' : World} (hB : 2 ≤ B) (h : Lib.Utf8Tabs 0 1 w) (hb : Below B w w') : Lib.Utf8Tabs 0 1 w' :=
  ⟨fun c hc => (hb.cell (p := ⟨0, c, none⟩) (by show 0 < B; omega)).trans (h.1 c hc), fun i hi => ⟨(hb.cell (p := ⟨1, 2 * i, none⟩) (by show 1 < B; omega)).trans (h.2 i hi).1, (hb.cell (p := ⟨1, 2 * i + 1, none⟩) (by show 1 < B; omega)).trans (h.2 i hi).2⟩⟩
section
variable {T : TypeId} {B R : Nat} {w : World} {left lst n d p : Value} {pos : Nat} {l : Bs} {m : List Value}
set_option maxRecDepth 20000 in
set_option maxHeartbeats 2000000 in
theorem step_end (h : RdS T B R w left lst n d p pos [] m) (hL : LeftAt w left l) (hl : l.length ≤ 100000000) (Q : Ending → World → Prop)
    (h1 : l = [] → ∀ w', Below w.heap.size w w' → Q (.returned (.bool false)) w') (h2 : l ≠ [] → ∀ w', RBad T B R w' 10 pos → Below B w w' → KT TR w w' → Q (.returned (.bool false)) w') :
    Calls Tryz.prog 90 #[.pointer (some ⟨R, 0, none⟩)] w Q := by
  suffices hq : Calls Tryz.prog 90 #[.pointer (some ⟨R, 0, none⟩)] w fun e w' => Q e w' ∧ True from hq.mono fun _ _ h => h.1
  obtain ⟨a, cap, rfl, hc, _, _, _⟩ := hL
  obtain ⟨aL, capL, hlst, _⟩ := own_slice h.its
  have hlst' : lst = .slice aL 0 capL := hlst
  clear hlst
  subst hlst'
  have c0 : w.cell? ⟨R, 0, none⟩ = some (.slice a l.length cap) := by simp [World.cell?, h.blk]
  have c1 : w.cell? ⟨R, 1, none⟩ = some (.int .i64 pos) := by simp [World.cell?, h.blk]
  have c2 : w.cell? ⟨R, 2, none⟩ = some (.slice aL 0 capL) := by simp [World.cell?, h.blk]
  have H := hide h
  have hBw : B ≤ w.heap.size := by have := h.lt; have := h.BR; omega
  have H1 := hide h1
  have H2 := hide h2
  clear h h1 h2
  have hP := hide (fun q => Place_any R pos (w.drewN q) (by simp; exact c1))
  have hF := hide (fun q => Left_any R a l.length cap (w.drewN q) (by simp; exact c0))
  by_cases h0 : l = []
  · have h0l : ¬ (0 : Int) < l.length := by rw [h0]; simp
    have HQ := hide (H1.out h0)
    clear H1 H2 h0
    go_enter Tryz.func90, Tryz.ntmps90
    go_wp2
    go_quiet ((go_at_call 69; exact Calls.quiet_of_same (hP.out _)))
    go_wp2_with fail
    refine (hF.out _).mono ?_
    rintro e w1 ⟨rfl, rfl⟩
    go_wp2
    go_ret
    exact ⟨HQ.out _ (drewNB w nq), trivial⟩
  · have h0l : (0 : Int) < l.length := by have := List.length_pos_iff.2 h0; omega
    have HQ := hide (H2.out h0)
    clear H1 H2 h0
    go_enter Tryz.func90, Tryz.ntmps90
    go_wp2
    go_quiet ((go_at_call 69; exact Calls.quiet_of_same (hP.out _)))
    have hRM1 := hide (H.out.new (drewNB w nq))
    go_wp2_with fail
    refine (hF.out _).mono ?_
    rintro e w1 ⟨rfl, rfl⟩
    go_wp2_with fail
    refine (fail_any T hRM1.out.ok B R _ _ _ _ _ _ _ _ _ _ hRM1.out.blk hRM1.out.BR 10 pos).mono ?_
    rintro e w2 ⟨⟨r, rfl⟩, hbad, hb2, hk2⟩
    go_wp2
    go_ret
    exact ⟨HQ.out _ hbad (((drewNB w nq).mono hBw).trans hb2) ((KT.new TR (drewNB w nq)).trans hk2), trivial⟩

/-- The block of a reader, whatever is in it. -/
def RBlk (T : TypeId) (R : Nat) (w : World) : Prop := ∃ x0 x1 x2 x3 x4 x5 x6 x7 m, w.heap[R]? = some (.cells ⟨x0 :: x1 :: x2 :: x3 :: x4 :: x5 :: x6 :: x7 :: m⟩ T (0, 0))
set_option maxRecDepth 20000 in
set_option maxHeartbeats 4000000 in
theorem step_gen {x : IV} {y : List IV} (h : RdS T B R w left lst n d p pos (x :: y) m) (hL : LeftAt w left l) (hl : l.length ≤ 100000000) (hp : pos ≤ 100000000) (hr : y.length ≤ 100000000)
    (most : Nat) (hmost : most ≤ 100) (k : FuncId) (first cap : Array Value) (hx : x = ⟨most, .func k, first, cap⟩) (hent : ∀ args w, (callFunc k args).run Tryz.prog w = .ok (.enter k args) w) (Q : Ending → World → Prop)
    (hw : cutF l most = .wait → ∀ w', Below w.heap.size w w' → Q (.returned (.bool false)) w')
    (hb : ∀ er, cutF l most = .bad er → ∀ w', RBad T B R w' er pos → Below B w w' → KT TR w w' → Q (.returned (.bool false)) w')
    (ht : ∀ s rst c, cutF l most = .ok s rst c → ∀ w1 left1 lst1, RdS T B R w1 left1 lst1 n d p (pos + c) y m → LeftAt w1 left1 rst → Below B w w1 → KT TR w w1 → Calls Tryz.prog k (first ++ #[.string ⟨s.toArray⟩] ++ cap) w1 fun e w2 =>
      (e = .returned (.int .i64 0) ∧ Q (.returned (.bool true)) w2) ∨ ∃ er, (er == 0) = false ∧ e = .returned (.int .i64 er) ∧ RBlk T R w2 ∧ ∀ w', RBad T B R w' er pos → Below B w2 w' → KT TR w2 w' → Q (.returned (.bool false)) w') :
    Calls Tryz.prog 90 #[.pointer (some ⟨R, 0, none⟩)] w Q := by
  suffices hq : Calls Tryz.prog 90 #[.pointer (some ⟨R, 0, none⟩)] w fun e w' => Q e w' ∧ True from hq.mono fun _ _ h => h.1
  subst hx
  have h2 := h.its
  obtain ⟨gL, capL, rfl, hcL⟩ := own_form h2 (by simp)
  have hrev : ((⟨most, .func k, first, cap⟩ : IV) :: y).reverse[y.length]? = some ⟨most, .func k, first, cap⟩ := by rw [List.reverse_cons, List.getElem?_append_right (by simp)]; simp
  obtain ⟨e0, e1⟩ := flatI_get _ _ _ hrev
  have d0 : w.cell? ⟨gL, y.length * 2, none⟩ = some (.int .i64 most) := (h2.cellAt _ (by rw [List.length_cons]; omega)).trans e0
  have d1 : w.cell? ⟨gL, y.length * 2 + 1, none⟩ = some (.func (.func k) first cap) := (h2.cellAt _ (by rw [List.length_cons]; omega)).trans e1
  have c1 : w.cell? ⟨R, 1, none⟩ = some (.int .i64 pos) := by simp [World.cell?, h.blk]
  have c2 : w.cell? ⟨R, 2, none⟩ = some (.slice (some ⟨gL, 0, none⟩) (y.length + 1) capL) := by simp [World.cell?, h.blk]
  have hBw : B ≤ w.heap.size := by have := h.lt; have := h.BR; omega
  have H := hide h
  have HL := hide hL
  have HW := hide hw
  have HB := hide hb
  have HT := hide ht
  have hcL' : y.length + 1 ≤ capL := by simpa using hcL
  clear h hL h2 hw hb ht e0 e1 hrev hcL
  have hP := hide (fun q => Place_any R pos (w.drewN q) (by simp; exact c1))
  go_enter Tryz.func90, Tryz.ntmps90
  go_wp2
  go_quiet ((go_at_call 69; exact Calls.quiet_of_same (hP.out _)))
  have hb1 := drewNB w nq
  have H1 := hide (H.out.new hb1)
  have HL1 := hide (HL.out.kept (KT.new [] hb1) (by simp))
  have k0 : (w.drewN nq).cell? ⟨gL, y.length * 2, none⟩ = some (.int .i64 most) := by simpa using d0
  have k1 : (w.drewN nq).cell? ⟨gL, y.length * 2 + 1, none⟩ = some (.func (.func k) first cap) := by simpa using d1
  have k2 : (w.drewN nq).cell? ⟨R, 2, none⟩ = some (.slice (some ⟨gL, 0, none⟩) (y.length + 1) capL) := by simpa using c2
  generalize w.drewN nq = w1 at hb1 H1 HL1 k0 k1 k2 ⊢
  clear hP H HL d0 d1 c1 c2
  go_wp2
  have hX := block_new w1 (.cells #[.int .i64 most, .func (.func k) first cap] 92)
  have hb2 := (Below.refl _ w1).alloc (Nat.le_refl _) (.cells #[.int .i64 most, .func (.func k) first cap] 92)
  have H2 := hide (H1.out.new hb2)
  have HL2 := hide (HL1.out.kept (KT.new [] hb2) (by simp))
  have hbw : Below w.heap.size w (w1.alloc (.cells #[.int .i64 most, .func (.func k) first cap] 92)) := hb1.trans (hb2.mono hb1.size)
  clear H1 HL1 k0 k1 k2 hb1 hb2
  generalize w1.alloc (.cells #[.int .i64 most, .func (.func k) first cap] 92) = W2 at hX H2 HL2 hbw ⊢
  generalize w1.heap.size = bx at hX ⊢
  obtain ⟨x0, x1⟩ := two_cells hX
  have hbd := drewB W2
  have H2d := hide (H2.out.new hbd)
  have cC := Cut_rs H2d.out l (HL2.out.kept (KT.new [] hbd) (by simp)) most (by omega) (by omega) hmost
  have hXd := (hbd.block _ (lt_of_block hX)).trans hX
  cases hc : cutF l most with
  | wait =>
    rw [hc] at cC
    simp only [cutRes, CutPost] at cC
    have CC := hide cC
    have HQ := hide (HW.out hc)
    clear cC HW HB HT
    go_region_with (go_at_call 106; refine CC.out.mono ?_; rintro e w3 ⟨rfl, hb3⟩)
    all_goals
      go_wp2
      go_ret
      exact ⟨HQ.out _ ((hbw.trans (hbd.mono hbw.size)).trans (hb3.mono (Nat.le_trans hbw.size hbd.size))), trivial⟩
  | bad er =>
    rw [hc] at cC
    simp only [cutRes, CutPost] at cC
    have CC := hide cC
    have HQ := hide (HB.out er hc)
    clear cC HW HB HT
    obtain rfl | rfl := cutF_bad hc
    all_goals
      go_region_with (go_at_call 106; refine CC.out.mono ?_; rintro e w3 ⟨rfl, hb3⟩)
      all_goals
        have H3 := hide (H2d.out.new hb3)
        go_wp2_with fail
        refine (fail_any T H3.out.ok B R _ _ _ _ _ _ _ _ _ _ H3.out.blk H3.out.BR _ pos).mono ?_
        rintro e w4 ⟨⟨r4, rfl⟩, hbad, hb4, hk4⟩
        go_wp2
        go_ret
        exact ⟨HQ.out _ hbad ((below_ext (below_ext (hbw.mono hBw) hBw hbd) hBw hb3).trans hb4) ((((KT.new TR hbw).trans (KT.new TR hbd)).trans (KT.new TR hb3)).trans hk4), trivial⟩
  | ok s rest c =>
    rw [hc] at cC
    simp only [cutRes, CutPost] at cC
    have CC := hide cC
    have HQ := hide (HT.out s rest c hc)
    clear cC HW HB HT
    go_region_with (go_at_call 106; refine CC.out.mono ?_; rintro e w3 ⟨rfl, left3, H3', HL3', hb3, hk3⟩; have H3 := hide H3'; have HL3 := hide HL3'; clear H3' HL3'; have hX3 := hk3 _ _ _ _ hXd (by decide); obtain ⟨y0, y1⟩ := two_cells hX3; have c23 : w3.cell? ⟨R, 2, none⟩ = some (.slice (some ⟨gL, 0, none⟩) (y.length + 1) capL) := (by simp [World.cell?, H3.out.blk]); have f23 : w3.frozen? ⟨R, 2, none⟩ = false := (by simp [World.frozen?, H3.out.blk]))
    all_goals
      obtain ⟨a1, a2, a3⟩ := H3.out.pop
      have hX4 := a3 _ _ _ _ hX3 (by decide)
      obtain ⟨z0, z1⟩ := two_cells hX4
      have hB4 : Below B w (w3.setCell ⟨R, 2, none⟩ (.slice (some ⟨gL, 0, none⟩) y.length capL)) := ((below_ext (hbw.mono hBw) hBw hbd).trans hb3).trans a2
      have hK4 : KT TR w (w3.setCell ⟨R, 2, none⟩ (.slice (some ⟨gL, 0, none⟩) y.length capL)) := (((KT.new TR hbw).trans (KT.new TR hbd)).trans hk3).trans a3
      have cS := hide (HQ.out _ left3 _ a1 (HL3.out.kept a3 (by decide)) hB4 hK4)
      have hBR := H3.out.BR
      have hok := hide H3.out.ok
      clear a1 a2 a3 hX3 hX4 z0 y0 HQ
      go_wp2_with fail
      refine cS.out.mono ?_
      rintro e w5 (⟨rfl, hq⟩ | ⟨er, her, rfl, ⟨r0, r1, r2, r3, r4, r5, r6, r7, rm, hR5⟩, hq⟩)
      · go_wp2
        go_ret
        exact ⟨hq, trivial⟩
      · go_wp2_with fail
        refine (fail_any T hok.out B R _ _ _ _ _ _ _ _ _ _ hR5 hBR er pos).mono ?_
        rintro e w6 ⟨⟨r6, rfl⟩, hbad, hb6, hk6⟩
        go_wp2
        go_ret
        exact ⟨hq _ hbad hb6 hk6, trivial⟩
end
end Go.Proofs.YticfcjmlphhpgabGreatDoor
namespace Go.Proofs.YticfcjmlphhpgabGreatDoor
open Go.RowKit

theorem exec_list : wExec.toList = [101, 120, 101, 99] := by rw [ByteArray.toList_eq]; rfl
theorem data_list : wData.toList = [100, 97, 116, 97] := by rw [ByteArray.toList_eq]; rfl
/-- A node's kind is stored. -/
theorem RM.kindSet {X : Xt} {B R : Nat} {w : World} {left lst drs : Value} {gN n cap : Nat} {pos : Nat} {list : List It} {g : Gr} (h : RM X B R w left lst (.slice (some ⟨gN, 0, none⟩) n cap) drs pos list g) (k : Nat) (hk : g.nodes.length = k + 1) (z : Int) :
    RM X B R (w.setCell ⟨gN, k * 3 + 1, none⟩ (.int .i64 z)) left lst (.slice (some ⟨gN, 0, none⟩) n cap) drs pos list ⟨setN g.nodes ⟨(lastN g.nodes).path, z, (lastN g.nodes).data⟩, g.dirs, g.path⟩ ∧ Below B w (w.setCell ⟨gN, k * 3 + 1, none⟩ (.int .i64 z)) ∧ KT TS w (w.setCell ⟨gN, k * 3 + 1, none⟩ (.int .i64 z)) := by
  rw [lastN_get _ k hk, setN_set _ k hk]
  exact h.node (k * 3 + 1) (.int .i64 z) _ (by rw [List.length_set]) (flat3_kind g.nodes k (by omega) z)

set_option maxRecDepth 20000 in
set_option maxHeartbeats 2000000 in
theorem takeInFile_any {X : Xt} {B R : Nat} {w : World} {left lst nds drs : Value} {pos : Nat} {list : List It} {g : Gr} (h : RM X B R w left lst nds drs pos list g) (hbd : Bd list g) (hne : g.nodes ≠ []) (s : ByteArray) :
    Calls Tryz.prog 138 #[.pointer (some ⟨R, 0, none⟩), .string s] w (TakePost X B R w left pos list (takeF g .inFile s)) := by
  obtain ⟨k, hk⟩ : ∃ k, g.nodes.length = k + 1 := ⟨g.nodes.length - 1, by have := List.length_pos_iff.2 hne; omega⟩
  have hk30 := hbd.ln
  have hmf : ∀ (fn : Fn) (first cap : Array Value) (w : World), (Instr.makeFunc fn first cap).run Tryz.prog w = .ok (.func fn first cap) w := fun _ _ _ _ => rfl
  obtain ⟨gN, capN, rfl, hcN⟩ := own_form h.nd (by omega)
  rw [hk] at hcN
  have hk' : k < g.nodes.length := by omega
  have hBw : B ≤ w.heap.size := by have := h.lt; have := h.BR; omega
  obtain ⟨T, hT⟩ : ∃ T, takeF g .inFile s = T := ⟨_, rfl⟩
  rw [hT]
  rw [take_inFile] at hT
  by_cases h1 : s = wExec
  · rw [if_pos h1] at hT
    subst hT
    have hb1 : (s.toList == [101, 120, 101, 99]) = true := by rw [h1, exec_list]; rfl
    have c5 : w.cell? ⟨R, 5, none⟩ = some (.slice (some ⟨gN, 0, none⟩) (k + 1) capN) := by simp [World.cell?, h.blk, hk]
    have cN := hide (newest_any R gN (k + 1) capN w (by omega) hcN c5 (by omega))
    simp only [Nat.add_sub_cancel] at cN
    obtain ⟨f0, f1, f2⟩ := flat3_get g.nodes k hk'
    have hrow := h.nd
    have d1 : ∀ q, (w.drewN q).cell? ⟨gN, k * 3 + 1, none⟩ = some (.int .i64 g.nodes[k].kind) := fun q => (own_drewN hrow q).cellAt (k * 3 + 1) (by omega) |>.trans f1
    have z1 : ∀ q, (w.drewN q).frozen? ⟨gN, k * 3 + 1, none⟩ = false := fun q => (own_drewN hrow q).frozenAt (k * 3 + 1)
    have H := hide h
    clear h hne hrow f0 f1 f2 h1
    go_enter Tryz.func138, Tryz.ntmps138
    go_wp2_with fail
    refine cN.out.mono ?_
    rintro e w1 ⟨rfl, q, rfl⟩
    have e1 := d1 q
    have y1 := z1 q
    have hRM1 := H.out.new (drewNB w q)
    have hB1 : Below B w (w.drewN q) := (drewNB w q).mono hBw
    have hK1 : KT TS w (w.drewN q) := KT.new TS (drewNB w q)
    generalize w.drewN q = w1 at e1 y1 hRM1 hB1 hK1
    clear cN d1 z1 c5
    obtain ⟨a1, a2, a3⟩ := hRM1.kindSet k hk 2
    have hB0 := hB1.trans a2
    have hK0 := hK1.trans a3
    have hM0 := hide (a1.new (drewB _))
    clear hRM1 a1 a2 a3 hB1 hK1
    generalize hW : w1.setCell ⟨gN, k * 3 + 1, none⟩ (.int .i64 2) = W7 at hB0 hK0 hM0
    go_wp2
    skip
    clear hW e1 y1
    go_region_with (first
      | (go_at_call 39; refine (Word_any wNone _).mono ?_; rintro e u1 ⟨bx1, rfl, hx1, hu1⟩; have hM1 := hide (hM0.out.new hu1); have hI1 : IsIt u1 R (.word wNone) ⟨8, .func 66, #[], #[.pointer (some ⟨bx1, 0, none⟩)]⟩ := ⟨bx1, rfl, hx1⟩)
      | (go_at_call 39; refine (Word_any wData _).mono ?_; rintro e u2 ⟨bx2, rfl, hx2, hu2⟩; have hM2 := hide (hM1.out.new hu2); have hI1 := hI1.kept (KT.new [] hu2) (by simp); have hI2 : IsIt u2 R (.word wData) ⟨8, .func 66, #[], #[.pointer (some ⟨bx2, 0, none⟩)]⟩ := ⟨bx2, rfl, hx2⟩)
      | (go_at_call 139; refine (data_any R _).mono ?_; rintro e u3 ⟨rfl, hu3⟩; have hM3 := hide (hM2.out.new hu3); have hI1 := hI1.kept (KT.new [] hu3) (by simp); have hI2 := hI2.kept (KT.new [] hu3) (by simp); have hI3 : IsIt u3 R (.data) ⟨100, .func 142, #[.pointer (some ⟨R, 0, none⟩)], #[]⟩ := rfl)
      | (go_at_call 39; refine (Word_any wClose _).mono ?_; rintro e u4 ⟨bx4, rfl, hx4, hu4⟩; have hM4 := hide (hM3.out.new hu4); have hI1 := hI1.kept (KT.new [] hu4) (by simp); have hI2 := hI2.kept (KT.new [] hu4) (by simp); have hI3 := hI3.kept (KT.new [] hu4) (by simp); have hI4 : IsIt u4 R (.word wClose) ⟨8, .func 66, #[], #[.pointer (some ⟨bx4, 0, none⟩)]⟩ := ⟨bx4, rfl, hx4⟩)
      | (go_at_call 38; refine (Must_rm (hM4.out.new ((Below.refl _ _).alloc (Nat.le_refl _) _)) u4.heap.size [.word wNone, .word wData, .data, .word wClose] [⟨8, .func 66, #[], #[.pointer (some ⟨bx1, 0, none⟩)]⟩, ⟨8, .func 66, #[], #[.pointer (some ⟨bx2, 0, none⟩)]⟩, ⟨100, .func 142, #[.pointer (some ⟨R, 0, none⟩)], #[]⟩, ⟨8, .func 66, #[], #[.pointer (some ⟨bx4, 0, none⟩)]⟩] ⟨hI1.kept (KT.new [] ((Below.refl _ _).alloc (Nat.le_refl _) _)) (by simp), hI2.kept (KT.new [] ((Below.refl _ _).alloc (Nat.le_refl _) _)) (by simp), hI3.kept (KT.new [] ((Below.refl _ _).alloc (Nat.le_refl _) _)) (by simp), hI4.kept (KT.new [] ((Below.refl _ _).alloc (Nat.le_refl _) _)) (by simp), trivial⟩ (block_new u4 _) hM4.out.lstNew (by have := hbd.ll; have := X.tl; omega) (by simp)).mono ?_; rintro e uz ⟨⟨r, rfl⟩, lstz, hRMz, hbz, hkz⟩))
    all_goals
      go_wp2
      go_ret
      refine ⟨rfl, lstz, _, _, hRMz, ?_, ?_⟩
      · exact ((below_ext (below_ext (below_ext (below_ext (below_ext hB0 hBw (drewB W7)) hBw hu1) hBw hu2) hBw hu3) hBw hu4).alloc (by have := hu1.size; have := hu2.size; have := hu3.size; have := hu4.size; have := (drewB W7).size; have := hB0.size; omega) _).trans hbz
      · exact ((((((hK0.trans (KT.new TS (drewB W7))).trans (KT.new TS hu1)).trans (KT.new TS hu2)).trans (KT.new TS hu3)).trans (KT.new TS hu4)).alloc _).trans hkz
  · rw [if_neg h1] at hT
    have hb1 : (s.toList == [101, 120, 101, 99]) = false := by rw [← exec_list]; exact eqB_false h1
    by_cases h2 : s = wData
    · rw [if_pos h2] at hT
      subst hT
      have hb2 : (s.toList == [100, 97, 116, 97]) = true := by rw [h2, data_list]; rfl
      have hB0 : Below B w w := Below.refl _ _
      have hK0 : KT TS w w := KT.refl _ _
      have hM0 := hide (h.new (drewB w))
      clear h h1 h2
      go_enter Tryz.func138, Tryz.ntmps138
      go_wp2
      go_region_with (first
        | (go_at_call 139; refine (data_any R _).mono ?_; rintro e u1 ⟨rfl, hu1⟩; have hM1 := hide (hM0.out.new hu1); have hI1 : IsIt u1 R (.data) ⟨100, .func 142, #[.pointer (some ⟨R, 0, none⟩)], #[]⟩ := rfl)
        | (go_at_call 39; refine (Word_any wClose _).mono ?_; rintro e u2 ⟨bx2, rfl, hx2, hu2⟩; have hM2 := hide (hM1.out.new hu2); have hI1 := hI1.kept (KT.new [] hu2) (by simp); have hI2 : IsIt u2 R (.word wClose) ⟨8, .func 66, #[], #[.pointer (some ⟨bx2, 0, none⟩)]⟩ := ⟨bx2, rfl, hx2⟩)
        | (go_at_call 38; refine (Must_rm (hM2.out.new ((Below.refl _ _).alloc (Nat.le_refl _) _)) u2.heap.size [.data, .word wClose] [⟨100, .func 142, #[.pointer (some ⟨R, 0, none⟩)], #[]⟩, ⟨8, .func 66, #[], #[.pointer (some ⟨bx2, 0, none⟩)]⟩] ⟨hI1.kept (KT.new [] ((Below.refl _ _).alloc (Nat.le_refl _) _)) (by simp), hI2.kept (KT.new [] ((Below.refl _ _).alloc (Nat.le_refl _) _)) (by simp), trivial⟩ (block_new u2 _) hM2.out.lstNew (by have := hbd.ll; have := X.tl; omega) (by simp)).mono ?_; rintro e uz ⟨⟨r, rfl⟩, lstz, hRMz, hbz, hkz⟩))
      all_goals
        go_wp2
        go_ret
        refine ⟨rfl, lstz, _, _, hRMz, ?_, ?_⟩
        · exact ((below_ext (below_ext (below_ext hB0 hBw (drewB w)) hBw hu1) hBw hu2).alloc (by have := hu1.size; have := hu2.size; have := (drewB w).size; have := hB0.size; omega) _).trans hbz
        · exact ((((hK0.trans (KT.new TS (drewB w))).trans (KT.new TS hu1)).trans (KT.new TS hu2)).alloc _).trans hkz
    · rw [if_neg h2] at hT
      subst hT
      have hb2 : (s.toList == [100, 97, 116, 97]) = false := by rw [← data_list]; exact eqB_false h2
      clear h1 h2
      go_enter Tryz.func138, Tryz.ntmps138
      go_wp2
      go_ret
      exact ⟨rfl, Below.refl _ _⟩
end Go.Proofs.YticfcjmlphhpgabGreatDoor
