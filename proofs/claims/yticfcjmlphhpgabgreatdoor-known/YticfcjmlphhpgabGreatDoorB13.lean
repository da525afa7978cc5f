import Derived.Test.YticfcjmlphhpgabGreatDoorB10
import Derived.Test.YticfcjmlphhpgabGreatDoorB12
import Derived.Laws.AppendOwnNone
namespace Go.Proofs.YticfcjmlphhpgabGreatDoor
open Go.RowKit

theorem takeInDir_any {X : Xt} {B R : Nat} {w : World} {left lst nds drs : Value} {pos : Nat} {list : List It} {g : Gr} (h : RM X B R w left lst nds drs pos list g) (hbd : Bd list g) (hne : g.dirs ≠ []) (s : ByteArray) :
    Calls Tryz.prog 140 #[.pointer (some ⟨R, 0, none⟩), .string s] w (TakePost X B R w left pos list (takeF g .inDir s)) := by
  by_cases hs : s = wEntry
  · subst hs; exact takeInDir_entry h hbd
  · exact takeInDir_close h hbd hne s hs
theorem Inv.bd {st : St} {tot : Nat} (h : Inv st tot) (ht : tot ≤ 50000000) {i : It} {r : List It} (hl : st.list = i :: r) : Bd r st.gr := by
  have h1 := h.sum
  have h2 := h.ll
  rw [hl, List.length_cons] at h2
  have h4 := h.ld
  have h5 := h.lp
  exact ⟨by omega, h.ln, by omega, by omega, fun n hn => by have := h.np n hn; omega, fun d hd => by have := h.dp d hd; omega⟩
/-- ONE STRING MORE. -/
theorem step_it {X : Xt} {B R : Nat} {w : World} {left lst nds drs : Value} {st : St} {tot : Nat} {i : It} {r : List It} (hlist : st.list = i :: r) (h : RM X B R w left lst nds drs st.pos st.list st.gr) (hL : LeftAt w left st.left) (hI : Inv st tot) (ht : tot ≤ 50000000) (hT : Lib.Utf8Tabs 0 1 w) (hB2 : 2 ≤ B) :
    Calls Tryz.prog 90 #[.pointer (some ⟨R, 0, none⟩)] w (StepPost X B R w (stepF st)) := by
  obtain ⟨l, pos, list, g⟩ := st
  have hsum := hI.sum
  simp only at h hL hsum hlist
  subst hlist
  have hbd := hI.bd ht rfl
  obtain ⟨hN, hD⟩ := hI.head rfl
  simp only at hbd hN hD
  have hrl := hbd.ll
  cases i with
  | word sw => exact step_cons h hL (by omega) (by omega) hrl 66 (enters_of Tryz.func66 (by kernel_rfl) rfl) (fun x hx => by
      obtain ⟨bw, hxe, hb⟩ := hx
      exact ⟨_, _, hxe, fun w1 left1 lst1 pos1 s _ _ hk hm => word_post sw s bw hm (hk _ _ _ _ hb (by decide))⟩)
  | bracket => exact step_cons h hL (by omega) (by omega) hrl 104 (enters_of Tryz.func104 (by kernel_rfl) rfl) (fun x hx => ⟨_, _, hx, fun w1 left1 lst1 pos1 s _ _ _ hm => takeBracket_any hm hbd s⟩)
  | kind => exact step_cons h hL (by omega) (by omega) hrl 125 (enters_of Tryz.func125 (by kernel_rfl) rfl) (fun x hx => ⟨_, _, hx, fun w1 left1 lst1 pos1 s _ _ _ hm => takeKind_any hm hbd (hN rfl) s⟩)
  | inFile => exact step_cons h hL (by omega) (by omega) hrl 138 (enters_of Tryz.func138 (by kernel_rfl) rfl) (fun x hx => ⟨_, _, hx, fun w1 left1 lst1 pos1 s _ _ _ hm => takeInFile_any hm hbd (hN rfl) s⟩)
  | inDir => exact step_cons h hL (by omega) (by omega) hrl 140 (enters_of Tryz.func140 (by kernel_rfl) rfl) (fun x hx => ⟨_, _, hx, fun w1 left1 lst1 pos1 s _ _ _ hm => takeInDir_any hm hbd (hD (.inl rfl)) s⟩)
  | name => exact step_cons h hL (by omega) (by omega) hrl 143 (enters_of Tryz.func143 (by kernel_rfl) rfl) (fun x hx => ⟨_, _, hx, fun w1 left1 lst1 pos1 s hs hb _ hm => takeName_any hm hbd (hD (.inr rfl)) s (by omega) (tabs_B hB2 hT hb)⟩)
  | data => exact step_cons h hL (by omega) (by omega) hrl 142 (enters_of Tryz.func142 (by kernel_rfl) rfl) (fun x hx => ⟨_, _, hx, fun w1 left1 lst1 pos1 s hs _ _ hm => takeData_any hm hbd (hN rfl) s (by omega)⟩)
theorem step_any {B R : Nat} {w : World} {left lst nds drs : Value} {st : St} {tot : Nat} (h : RM X0 B R w left lst nds drs st.pos st.list st.gr) (hL : LeftAt w left st.left) (hI : Inv st tot) (ht : tot ≤ 50000000) (hT : Lib.Utf8Tabs 0 1 w) (hB2 : 2 ≤ B) :
    Calls Tryz.prog 90 #[.pointer (some ⟨R, 0, none⟩)] w (StepPost X0 B R w (stepF st)) := by
  cases hlist : st.list with
  | cons i r => exact step_it hlist h hL hI ht hT hB2
  | nil =>
    obtain ⟨l, pos, list, g⟩ := st
    have hsum := hI.sum
    simp only at h hL hsum hlist
    subst hlist
    obtain ⟨ivs, h1, hrs⟩ := h.rs
    cases ivs with
    | cons x y => exact h1.elim
    | nil =>
      refine step_end hrs hL (by omega) _ ?_ ?_
      · intro h0 w' hb
        simp only [stepF, if_pos h0]
        exact ⟨rfl, hb⟩
      · intro h0 w' hbad hb _
        simp only [stepF, if_neg h0]
        exact ⟨rfl, hbad, hb, rfl⟩
end Go.Proofs.YticfcjmlphhpgabGreatDoor
namespace Go.Proofs.YticfcjmlphhpgabGreatDoor
open Go.RowKit

theorem strCells_of (s : ByteArray) : Lib.strCells s = cellsOf s.data.toList := rfl
theorem own_left {w : World} {B : Nat} {v : Value} {l : Bs} (h : w.ownsRow B 5 1 v l.length (cellsOf l)) : LeftAt w v l := by
  rcases h.2 with ⟨rfl, h0⟩ | ⟨g, cap, cur, rfl, hg, hh, hn, hm, hc, hx⟩
  · exact ⟨none, 0, by rw [h0], by omega, fun _ => rfl, (fun x h => by cases h), fun hl => by omega⟩
  · refine ⟨_, cap, rfl, hn, (fun h => by cases h), (fun x h => by cases h; rfl), fun _ => ⟨g, 0, cur, (0, 0), rfl, hh, fun i hi => ?_⟩⟩
    have hrow : w.ownsRow B 5 1 (.slice (some ⟨g, 0, none⟩) l.length cap) l.length (cellsOf l) := h
    rw [Nat.zero_add, hrow.cellAt i (by omega)]
    simp [cellsOf, hi]
theorem cells_bytes {w : World} {g o : Nat} {l : Bs} (h : BytesAt w g o l) : ∀ j u, (cellsOf l)[j]? = some u → w.cell? ((⟨g, o, none⟩ : Addr).add j) = some u := by
  intro j u hj
  have hl : j < l.length := by rw [← cellsOf_length]; exact (List.getElem?_eq_some_iff.1 hj).1
  have ha : (⟨g, o, none⟩ : Addr).add j = ⟨g, o + j, none⟩ := by unfold Addr.add; split <;> simp_all
  rw [ha, h j hl, ← hj]
  simp [cellsOf, hl]
theorem cells_one (l : Bs) : ∀ u ∈ cellsOf l, u.oneCell' = true := by
  intro u hu
  simp only [cellsOf, List.mem_map] at hu
  obtain ⟨b, _, rfl⟩ := hu
  rfl
section
variable {T : TypeId} {B R : Nat} {w : World} {left lst n d p : Value} {pos : Nat} {ivs : List IV} {m : List Value}
/-- The left bytes are stored. -/
theorem RdS.setLeft {w3 : World} (h : RdS T B R w left lst n d p pos ivs m) (hk : KT [5] w w3) (v : Value) :
    RdS T B R (w3.setCell ⟨R, 0, none⟩ v) v lst n d p pos ivs m ∧ KT TR w3 (w3.setCell ⟨R, 0, none⟩ v) := by
  have hR3 := hk _ _ _ _ h.blk (tyN h.ok (by decide))
  have hk2 : KT TR w3 (w3.setCell ⟨R, 0, none⟩ v) := (KT.refl TR w3).set hR3 (tyI h.ok (by decide)) _ _
  exact ⟨⟨block_set hR3 0 _, h.BR, own_kt (own_kt h.its hk (by decide)) hk2 (by decide), h.ok⟩, hk2⟩
theorem own_set {w3 : World} {v : Value} {l : Bs} (h : w3.ownsRow B 5 1 v l.length (cellsOf l)) (hk : KT TR w3 (w3.setCell ⟨R, 0, none⟩ v)) : (w3.setCell ⟨R, 0, none⟩ v).ownsRow B 5 1 v l.length (cellsOf l) := own_kt h hk (by decide)
set_option maxRecDepth 20000 in
set_option maxHeartbeats 1000000 in
theorem Add_rs (h : RdS T B R w left lst n d p pos ivs m) (l : Bs) (hown : w.ownsRow B 5 1 left l.length (cellsOf l)) (s : ByteArray) (hl : l.length ≤ 100000000) (hs : s.size ≤ 100000000) :
    Calls Tryz.prog 89 #[.pointer (some ⟨R, 0, none⟩), .string s] w fun e w' => (∃ r, e = .returned r) ∧ ∃ v w3, w' = w3.setCell ⟨R, 0, none⟩ v ∧ w3.ownsRow B 5 1 v (l ++ s.data.toList).length (cellsOf (l ++ s.data.toList)) ∧ KT [5] w w3 ∧ Below B w w3 := by
  obtain ⟨i0, hi, hz0, hz1, hz2⟩ := info_parts Tryz.info5
  have c0 : w.cell? ⟨R, 0, none⟩ = some left := by simp [World.cell?, h.blk]
  have hBw : B ≤ w.heap.size := by have := h.lt; have := h.BR; omega
  have hlt := h.lt
  have hRrow : some R ≠ left.ownBlock := fun e => by
    obtain ⟨c, fz, hc⟩ := own_kind hown R e.symm
    rw [h.blk] at hc
    injection hc with hc
    injection hc with _ hc _
    exact tyD (e := 5) h.ok (by decide) hc.symm
  have H := hide h
  have HO := hide hown
  clear h hown
  go_enter Tryz.func89, Tryz.ntmps89
  go_wp2_with (at_builtin; refine Lib.wpList_append_own_string _ rfl (.tmp 8) (.tmp 9) 39 9 rfl B 5 i0 Tryz.underlying39 Tryz.underlying9 hi hz0 hz1 hz2 left _ _ rfl HO.out s rfl (by unfold maxLen; omega) (by omega) (by omega) ?_; intro v3 w3 hown3 hgrow3 hnil3; obtain ⟨a3, cap3, rfl, hc3⟩ := own_slice hown3; have hR3 := (hgrow3.block R (by omega) hRrow).trans H.out.blk; have c03 : w3.cell? ⟨R, 0, none⟩ = some left := (by simp [World.cell?, hR3]); have f03 : w3.frozen? ⟨R, 0, none⟩ = false := (by simp [World.frozen?, hR3]))
  go_end0
  have hll : (l ++ s.data.toList).length = l.length + s.size := by simp
  refine ⟨⟨_, rfl⟩, _, w3, rfl, ?_, (KT.refl [5] w).grown HO.out hgrow3 (by decide), (Below.refl B w).grown hgrow3 hBw (fun k hk => (HO.out.lt k hk).1)⟩
  rw [cellsOf_append, hll, ← strCells_of]; exact hown3
set_option maxRecDepth 20000 in
set_option maxHeartbeats 1000000 in
theorem Trim_any {x1 : Value} {m : List Value} (x0 : Value) (hR : w.heap[R]? = some (.cells ⟨x0 :: x1 :: m⟩ T (0, 0))) (hBR : B ≤ R) (l : Bs) (hL : LeftAt w x0 l) (hl : l.length ≤ 100000000) :
    Calls Tryz.prog 91 #[.pointer (some ⟨R, 0, none⟩)] w fun e w' => (∃ r, e = .returned r) ∧ ∃ v w3, w' = w3.setCell ⟨R, 0, none⟩ v ∧ w3.ownsRow B 5 1 v l.length (cellsOf l) ∧ KT [5] w w3 ∧ Below B w w3 := by
  obtain ⟨i0, hi, hz0, hz1, hz2⟩ := info_parts Tryz.info5
  obtain ⟨a, cap, rfl, hc, hz, hy, hb⟩ := hL
  have c0 : w.cell? ⟨R, 0, none⟩ = some (.slice a l.length cap) := by simp [World.cell?, hR]
  have f0 : w.frozen? ⟨R, 0, none⟩ = false := by simp [World.frozen?, hR]
  have hlt := lt_of_block hR
  cases a with
  | none =>
    have hc0 := hz rfl
    subst hc0
    have hl0 : l = [] := List.eq_nil_of_length_eq_zero (by omega)
    subst hl0
    clear hb hz hy
    go_enter Tryz.func91, Tryz.ntmps91
    go_wp2_with (at_builtin; refine wpList_append_own_none rfl (.const (.slice none 0 0)) (.tmp 6) 39 rfl B 5 i0 1 Tryz.underlying39 hi (.slice none 0 0) 0 [] rfl (World.ownsRow_nil _ _ _ _) rfl ?_)
    go_end0
    exact ⟨⟨_, rfl⟩, _, w, rfl, World.ownsRow_nil _ _ _ _, KT.refl _ _, Below.refl _ _⟩
  | some ad =>
    obtain ⟨gB, o, spot⟩ := ad
    obtain rfl : spot = none := hy _ rfl
    have hbytes : BytesAt w gB o l := by
      rcases Nat.eq_zero_or_pos l.length with h0 | h0
      · rw [List.eq_nil_of_length_eq_zero h0]; exact BytesAt.nil _ _ _
      · obtain ⟨g', o', c, fz, e, _, hB'⟩ := hb h0
        cases e; exact hB'
    have HBy := hide hbytes
    clear hb hz hy hbytes
    go_enter Tryz.func91, Tryz.ntmps91
    go_wp2_with (at_builtin; refine wpList_append_own _ rfl (.const (.slice none 0 0)) (.tmp 6) 39 rfl B 5 i0 (.int .u8 0) 1 1 Tryz.underlying39 hi hz0 hz1 hz2 rfl (by decide) (.slice none 0 0) 0 [] rfl (World.ownsRow_nil _ _ _ _) ⟨gB, o, none⟩ l.length cap (cellsOf l) rfl (by rw [cellsOf_length]; omega) (cells_bytes HBy.out) (cells_one l) (by unfold maxLen; omega) (by omega) (by omega) ?_; intro v3 w3 hown3 hgrow3 hnil3; rw [Nat.zero_add, List.nil_append] at hown3; obtain ⟨a3, cap3, rfl, hc3⟩ := own_slice hown3; have hR3 := (hgrow3.block R hlt (by simp [Value.ownBlock])).trans hR; have c03 : w3.cell? ⟨R, 0, none⟩ = some (.slice (some ⟨gB, o, none⟩) l.length cap) := (by simp [World.cell?, hR3]); have f03 : w3.frozen? ⟨R, 0, none⟩ = false := (by simp [World.frozen?, hR3]))
    go_end0
    have hg0 : Below w.heap.size w w3 := (Below.refl _ w).grown hgrow3 (Nat.le_refl _) (fun k hk => by simp [Value.ownBlock] at hk)
    exact ⟨⟨_, rfl⟩, _, w3, rfl, hown3, KT.new _ hg0, hg0.mono (by omega)⟩
end
end Go.Proofs.YticfcjmlphhpgabGreatDoor
namespace Go.Proofs.YticfcjmlphhpgabGreatDoor
open Go.RowKit

/-- A machine that goes through bytes by strings. -/
structure ML {σ : Type} (stp : σ → OutG σ) (lf : σ → Bs) (add : σ → Bs → σ) : Prop where
  lfa : ∀ st b, lf (add st b) = lf st ++ b
  go : ∀ {st st'}, stp st = .go st' → (lf st').length < (lf st).length
  pos : ∀ {st e p}, stp st = .fail e p → 0 < (lf st).length
  ne : ∀ {st e p}, stp st = .fail e p → (e == 0) = false
theorem runG_fuel {σ : Type} {stp : σ → OutG σ} {lf : σ → Bs} {add : σ → Bs → σ} (h : ML stp lf add) : ∀ (f g : Nat) (st : σ), (lf st).length ≤ f → (lf st).length ≤ g → runG stp f st = runG stp g st
  | 0, 0, _, _, _ => rfl
  | 0, g + 1, st, hf, _ => by
    simp only [runG]
    cases hst : stp st with
    | stop => rfl
    | go st' => have := h.go hst; omega
    | fail e p => have := h.pos hst; omega
  | f + 1, 0, st, _, hg => by
    simp only [runG]
    cases hst : stp st with
    | stop => rfl
    | go st' => have := h.go hst; omega
    | fail e p => have := h.pos hst; omega
  | f + 1, g + 1, st, hf, hg => by
    simp only [runG]
    cases hst : stp st with
    | stop => rfl
    | fail e p => rfl
    | go st' => have := h.go hst; exact runG_fuel h f g st' (by omega) (by omega)
def feedG {σ : Type} (stp : σ → OutG σ) (lf : σ → Bs) (add : σ → Bs → σ) : RdG σ → Bs → RdG σ
  | .bad e p, _ => .bad e p
  | .ok st, s => runG stp ((lf st).length + s.length) (add st s)
def errOf {σ : Type} : RdG σ → Int
  | .ok _ => 0
  | .bad e _ => e
def endG {σ : Type} (lf : σ → Bs) (ps ln : σ → Nat) : RdG σ → Int × Nat
  | .bad e p => (e, p)
  | .ok st => if ln st = 0 then (0, 0) else (2, ps st + (lf st).length)
/-- A reader in memory, as such a machine. -/
structure MM {σ : Type} (T : TypeId) (B R : Nat) (add : σ → Bs → σ) (ps ln : σ → Nat) (M : World → Value → σ → Prop) : Prop where
  rs : ∀ {w left st}, M w left st → ∃ lst n d p ivs m, RdS T B R w left lst n d p (ps st) ivs m ∧ ivs.length = ln st
  set : ∀ {w w3 left st} (v : Value), M w left st → KT [5] w w3 → Below B w w3 → M (w3.setCell ⟨R, 0, none⟩ v) v st
  new : ∀ {w w' left st}, M w left st → Below w.heap.size w w' → M w' left st
  add : ∀ {w left st} (s : Bs), M w left st → M w left (add st s)
  ty : T = 86 ∨ T = 88
/-- A reader that has failed, whatever is left. -/
def RBadL (T : TypeId) (B R : Nat) (w : World) (e : Int) (p : Nat) : Prop := B ≤ R ∧ ∃ x0 x5 x6 x7 m, w.heap[R]? = some (.cells ⟨x0 :: .int .i64 0 :: .slice none 0 0 :: .int .i64 e :: .int .i64 p :: x5 :: x6 :: x7 :: m⟩ T (0, 0))
/-- A reader between two pieces. -/
def RdM {σ : Type} (T : TypeId) (B R : Nat) (lf : σ → Bs) (M : World → Value → σ → Prop) (w : World) : RdG σ → Prop
  | .ok st => ∃ left, M w left st ∧ w.ownsRow B 5 1 left (lf st).length (cellsOf (lf st))
  | .bad e p => RBadL T B R w e p ∧ (e == 0) = false
/-- What one step must say. -/
def StepSaid {σ : Type} (T : TypeId) (B0 B R : Nat) (stp : σ → OutG σ) (lf : σ → Bs) (M : World → Value → σ → Prop) (w : World) (st : σ) : Prop :=
  Calls Tryz.prog 90 #[.pointer (some ⟨R, 0, none⟩)] w fun e w' => match stp st with
    | .stop => e = .returned (.bool false) ∧ Below w.heap.size w w'
    | .fail er p => e = .returned (.bool false) ∧ RBad T B R w' er p ∧ Below B0 w w'
    | .go st' => e = .returned (.bool true) ∧ ∃ left', M w' left' st' ∧ LeftAt w' left' (lf st') ∧ Below B0 w w'
def leftLen (R : Nat) (w : World) : Nat := match w.cell? ⟨R, 0, none⟩ with
  | some (.slice _ n _) => n
  | _ => 0
theorem leftLen_of {T : TypeId} {B R : Nat} {w : World} {left lst n d p : Value} {pos : Nat} {ivs : List IV} {m : List Value} (h : RdS T B R w left lst n d p pos ivs m) {l : Bs} (hL : LeftAt w left l) : leftLen R w = l.length := by
  obtain ⟨a, cap, rfl, _⟩ := hL
  have c0 : w.cell? ⟨R, 0, none⟩ = some (.slice a l.length cap) := by simp [World.cell?, h.blk]
  unfold leftLen
  rw [c0]
section
variable {σ : Type} {T : TypeId} {B0 B R : Nat} {stp : σ → OutG σ} {lf : σ → Bs} {add : σ → Bs → σ} {ps ln : σ → Nat} {M : World → Value → σ → Prop}
set_option maxRecDepth 20000 in
set_option maxHeartbeats 2000000 in
theorem Read_gen (h0 : B0 ≤ B) (hml : ML stp lf add) (hmm : MM T B R add ps ln M) (J : σ → Prop) (hJl : ∀ st, J st → (lf st).length ≤ 100000000) (hJg : ∀ st st', J st → stp st = .go st' → J st') (w : World) (rd : RdG σ) (s : ByteArray) (h : RdM T B R lf M w rd) (hJ0 : ∀ st, rd = .ok st → J (add st s.data.toList))
    (hstep : ∀ w2 left2 st2, Below B0 w w2 → M w2 left2 st2 → LeftAt w2 left2 (lf st2) → J st2 → StepSaid T B0 B R stp lf M w2 st2) :
    Calls Tryz.prog 68 #[.pointer (some ⟨R, 0, none⟩), .string s] w fun e w' => e = .returned (.int .i64 (errOf (feedG stp lf add rd s.data.toList))) ∧ RdM T B R lf M w' (feedG stp lf add rd s.data.toList) ∧ Below B0 w w' := by
  cases rd with
  | bad e p =>
    obtain ⟨⟨hBR, x0, x5, x6, x7, m, hR⟩, hne⟩ := h
    have c3 : w.cell? ⟨R, 3, none⟩ = some (.int .i64 e) := by simp [World.cell?, hR]
    have HR := hide hR
    clear hR hstep hJ0
    go_enter Tryz.func68, Tryz.ntmps68
    go_wp2
    go_ret
    exact ⟨rfl, ⟨⟨hBR, x0, x5, x6, x7, m, HR.out⟩, hne⟩, Below.refl _ _⟩
  | ok st =>
    obtain ⟨left, hM, hO⟩ := h
    obtain ⟨lst, n, d, p, ivs, m, hRS, hlen⟩ := hmm.rs hM
    have hJst := hJ0 st rfl
    have hsl : s.data.toList.length = s.size := by simp
    have hll := hJl _ hJst
    rw [hml.lfa, List.length_append, hsl] at hll
    have c3 : w.cell? ⟨R, 3, none⟩ = some (.int .i64 0) := by simp [World.cell?, hRS.blk]
    have hBw : B ≤ w.heap.size := by have := hRS.lt; have := hRS.BR; omega
    have hBR := hRS.BR
    have cA := hide (Add_rs hRS (lf st) hO s (by omega) (by omega))
    obtain ⟨RR, hRR⟩ : ∃ RR, feedG stp lf add (.ok st) s.data.toList = RR := ⟨_, rfl⟩
    rw [hRR]
    have HRR : Hid (runG stp (lf (add st s.data.toList)).length (add st s.data.toList) = RR) := by
      show _ = _
      rw [← hRR]
      exact runG_fuel hml _ _ _ (Nat.le_refl _) (by rw [hml.lfa, List.length_append]; exact Nat.le_refl _)
    have HM := hide hM
    have HS := hide hRS
    have HJ := hide hJst
    have HST := hide hstep
    have HML := hide hml
    have HMM := hide hmm
    clear hM hO hRR hRS hJst hJ0 hstep hml hmm hlen
    go_enter Tryz.func68, Tryz.ntmps68
    go_wp2_with fail
    refine cA.out.mono ?_
    rintro e w1 ⟨⟨r, rfl⟩, v1, w1', rfl, hO1, hk1, hb1⟩
    have hM1 := hide (HMM.out.add s.data.toList (HMM.out.set v1 HM.out hk1 hb1))
    have hL1 : Hid (LeftAt (w1'.setCell ⟨R, 0, none⟩ v1) v1 (lf (add st s.data.toList))) := by
      show LeftAt _ _ _
      rw [HML.out.lfa]
      exact (own_left hO1).kept (HS.out.setLeft hk1 v1).2 (by decide)
    have hB1 := hide ((hb1.setCell hBR (p := ⟨R, 0, none⟩) v1).mono h0)
    clear cA c3 hO1 hk1 hb1
    generalize w1'.setCell ⟨R, 0, none⟩ v1 = w1 at hM1 hL1 hB1 ⊢
    go_wp2
    go_loopw [19, 20] (fun _ _ w2 => ∃ (st2 : σ) (left2 : Value), Hid (M w2 left2 st2) ∧ Hid (LeftAt w2 left2 (lf st2)) ∧ Hid (J st2) ∧ Hid (runG stp (lf st2).length st2 = RR) ∧ Hid (Below B0 w w2)) (fun _ _ w2 => leftLen R w2)
    case atStart => exact ⟨add st s.data.toList, v1, hM1, hL1, HJ, HRR, hB1⟩
    case round =>
      obtain ⟨st2, left2, hM2, hL2, hJ2, hR2, hb2⟩ := hrel
      obtain ⟨lst2, n2, d2, p2, ivs2, m2, hRS2', _⟩ := HMM.out.rs hM2.out
      have hlen2 := leftLen_of hRS2' hL2.out
      have hRS2 := hide hRS2'
      clear hRS2'
      have cS := HST.out _ left2 st2 hb2.out hM2.out hL2.out hJ2.out
      unfold StepSaid at cS
      cases hst : stp st2 with
      | stop =>
        rw [hst] at cS
        have CS := hide cS
        clear cS
        have hRR2 : RR = .ok st2 := by
          rw [← hR2.out]
          cases (lf st2).length <;> simp only [runG, hst]
        go_wp2_with fail
        refine CS.out.mono ?_
        rintro e w3 ⟨rfl, hb3⟩
        have hM3 := hide (HMM.out.new hM2.out hb3)
        have hRS3 := hide (hRS2.out.new hb3)
        have hL3 := hide (hL2.out.kept (KT.new [] hb3) (by simp))
        go_wp2_with fail
        refine (Trim_any _ hRS3.out.blk hBR (lf st2) hL3.out (hJl _ hJ2.out)).mono ?_
        rintro e w4 ⟨⟨r4, rfl⟩, v, w5, rfl, hO5, hk5, hb5⟩
        obtain ⟨a1, a2⟩ := hRS3.out.setLeft hk5 v
        have c3 : (w5.setCell ⟨R, 0, none⟩ v).cell? ⟨R, 3, none⟩ = some (.int .i64 0) := by simp [World.cell?, a1.blk]
        have hF := hide (show RdM T B R lf M (w5.setCell ⟨R, 0, none⟩ v) (.ok st2) from ⟨v, HMM.out.set v hM3.out hk5 hb5, own_set hO5 a2⟩)
        have hB5 := hide ((below_ext hb2.out (Nat.le_trans h0 hBw) hb3).trans ((hb5.setCell hBR (p := ⟨R, 0, none⟩) v).mono h0))
        clear a1 a2 hO5 hk5 hb5
        subst hRR2
        go_wp2
        go_ret
        exact ⟨rfl, hF.out, hB5.out⟩
      | fail er p =>
        rw [hst] at cS
        have CS := hide cS
        clear cS
        have hne := HML.out.ne hst
        have hRR2 : RR = .bad er p := by
          rw [← hR2.out]
          have := HML.out.pos hst
          cases hl : (lf st2).length with
          | zero => omega
          | succ k => simp only [runG, hst]
        go_wp2_with fail
        refine CS.out.mono ?_
        rintro e w3 ⟨rfl, ⟨hBR3, x5, x6, x7, m3, hR3⟩, hb3⟩
        go_wp2_with fail
        refine (Trim_any _ hR3 hBR [] ⟨none, 0, rfl, Nat.le_refl _, fun _ => rfl, (fun x h => by cases h), fun h => by simp at h⟩ (by simp)).mono ?_
        rintro e w4 ⟨⟨r4, rfl⟩, v, w5, rfl, hO5, hk5, hb5⟩
        have hR5 := hk5 _ _ _ _ hR3 (tyN HMM.out.ty (by decide))
        have hR6 := block_set hR5 0 v
        have c3 : (w5.setCell ⟨R, 0, none⟩ v).cell? ⟨R, 3, none⟩ = some (.int .i64 er) := by simp [World.cell?, hR6]
        have hF := hide (show RdM T B R lf M (w5.setCell ⟨R, 0, none⟩ v) (.bad er p) from ⟨⟨hBR, v, x5, x6, x7, m3, hR6⟩, hne⟩)
        have hB5 := hide ((hb2.out.trans hb3).trans ((hb5.setCell hBR (p := ⟨R, 0, none⟩) v).mono h0))
        clear hR6 hR5 hO5 hk5 hb5
        subst hRR2
        go_wp2
        go_ret
        exact ⟨rfl, hF.out, hB5.out⟩
      | go st3 =>
        rw [hst] at cS
        have CS := hide cS
        clear cS
        have hgo := HML.out.go hst
        have hJ3 := hide (hJg _ _ hJ2.out hst)
        have hR3 : Hid (runG stp (lf st3).length st3 = RR) := by
          show _ = _
          rw [← hR2.out]
          obtain ⟨k, hk⟩ : ∃ k, (lf st2).length = k + 1 := ⟨(lf st2).length - 1, by omega⟩
          rw [hk]
          simp only [runG, hst]
          exact runG_fuel HML.out _ _ _ (Nat.le_refl _) (by omega)
        go_wp2_with fail
        refine CS.out.mono ?_
        rintro e w3 ⟨rfl, left3, hM3, hL3, hb3⟩
        obtain ⟨lst3, n3, d3, p3, ivs3, m3, hRS3, _⟩ := HMM.out.rs hM3
        have hlen3 := leftLen_of hRS3 hL3
        clear hRS3
        go_wp2
        go_roundw
        case rel => exact ⟨st3, left3, hide hM3, hide hL3, hJ3, hR3, hide (hb2.out.trans hb3)⟩
        case measure => rw [hlen3, hlen2]; omega
set_option maxRecDepth 20000 in
set_option maxHeartbeats 1000000 in
theorem Feed_gen (h0 : B0 ≤ B) (hml : ML stp lf add) (hmm : MM T B R add ps ln M) (J : σ → Prop) (hJl : ∀ st, J st → (lf st).length ≤ 100000000) (hJg : ∀ st st', J st → stp st = .go st' → J st') (w : World) (rd : RdG σ) (s : ByteArray) (h : RdM T B R lf M w rd) (hJ0 : ∀ st, rd = .ok st → J (add st s.data.toList))
    (hstep : ∀ w2 left2 st2, Below B0 w w2 → M w2 left2 st2 → LeftAt w2 left2 (lf st2) → J st2 → StepSaid T B0 B R stp lf M w2 st2) :
    Calls Tryz.prog 42 #[.pointer (some ⟨R, 0, none⟩), .string s] w fun e w' => (∃ r, e = .returned r) ∧ RdM T B R lf M w' (feedG stp lf add rd s.data.toList) ∧ Below B0 w w' := by
  have cR := Read_gen h0 hml hmm J hJl hJg w rd s h hJ0 hstep
  cases hrd : feedG stp lf add rd s.data.toList with
  | ok st =>
    rw [hrd] at cR
    have CR := hide cR
    clear cR hstep hJ0 h hml hmm
    simp only [errOf] at CR
    go_enter Tryz.func42, Tryz.ntmps42
    go_wp2_with fail
    refine CR.out.mono ?_
    rintro e w1 ⟨rfl, h1, h2⟩
    go_wp2
    go_end0
    exact ⟨⟨_, rfl⟩, h1, h2⟩
  | bad er p =>
    rw [hrd] at cR
    have CR := hide cR
    clear cR hstep hJ0 h hml hmm
    simp only [errOf] at CR
    go_enter Tryz.func42, Tryz.ntmps42
    go_wp2_with fail
    refine CR.out.mono ?_
    rintro e w1 ⟨rfl, ⟨⟨hBR, x0, x5, x6, x7, m, hR⟩, hne⟩, h2⟩
    have c5 : w1.cell? ⟨R, 5, none⟩ = some x5 := by simp [World.cell?, hR]
    have c6 : w1.cell? ⟨R, 6, none⟩ = some x6 := by simp [World.cell?, hR]
    have c7 : w1.cell? ⟨R, 7, none⟩ = some x7 := by simp [World.cell?, hR]
    have f5 : w1.frozen? ⟨R, 5, none⟩ = false := by simp [World.frozen?, hR]
    have f6 : w1.frozen? ⟨R, 6, none⟩ = false := by simp [World.frozen?, hR]
    have f7 : w1.frozen? ⟨R, 7, none⟩ = false := by simp [World.frozen?, hR]
    have HR := hide hR
    clear hR
    go_wp2
    go_end0
    have b5 := block_set HR.out 5 (.slice none 0 0)
    have b6 := block_set b5 6 (.slice none 0 0)
    have b7 := block_set b6 7 (.string ⟨#[]⟩)
    exact ⟨⟨_, rfl⟩, ⟨⟨hBR, x0, _, _, _, m, b7⟩, hne⟩, ((h2.setCell (Nat.le_trans h0 hBR) _).setCell (Nat.le_trans h0 hBR) _).setCell (Nat.le_trans h0 hBR) _⟩
set_option maxRecDepth 20000 in
set_option maxHeartbeats 1000000 in
theorem End_gen (hmm : MM T B R add ps ln M) (w : World) (rd : RdG σ) (h : RdM T B R lf M w rd) (hb : ∀ st, rd = .ok st → ps st + (lf st).length ≤ 1000000000) :
    Calls Tryz.prog 43 #[.pointer (some ⟨R, 0, none⟩)] w fun e w' => e = .returned (.tuple #[.int .i64 (endG lf ps ln rd).1, .int .i64 ((endG lf ps ln rd).2 : Nat)]) ∧ ∃ q, w' = w.drewN q := by
  cases rd with
  | bad er p =>
    obtain ⟨⟨hBR, x0, x5, x6, x7, m, hR⟩, hne⟩ := h
    have c2 : w.cell? ⟨R, 2, none⟩ = some (.slice none 0 0) := by simp [World.cell?, hR]
    have c3 : w.cell? ⟨R, 3, none⟩ = some (.int .i64 er) := by simp [World.cell?, hR]
    have c4 : w.cell? ⟨R, 4, none⟩ = some (.int .i64 p) := by simp [World.cell?, hR]
    simp only [endG]
    clear hR hne
    go_enter Tryz.func43, Tryz.ntmps43
    go_wp2
    go_quiet (fail)
    go_wp2
    go_ret2
    exact ⟨rfl, _, rfl⟩
  | ok st =>
    obtain ⟨left, hM, hO⟩ := h
    obtain ⟨lst, n, d, p, ivs, m, hRS, hlen⟩ := hmm.rs hM
    have hsum := hb st rfl
    obtain ⟨aL, capL, rfl, hcL⟩ := own_slice hRS.its
    obtain ⟨aB, capB, rfl, _⟩ := own_slice hO
    rw [hlen] at hRS
    have c0 : w.cell? ⟨R, 0, none⟩ = some (.slice aB (lf st).length capB) := by simp [World.cell?, hRS.blk]
    have c1 : w.cell? ⟨R, 1, none⟩ = some (.int .i64 (ps st)) := by simp [World.cell?, hRS.blk]
    have c2 : w.cell? ⟨R, 2, none⟩ = some (.slice aL (ln st) capL) := by simp [World.cell?, hRS.blk]
    have c3 : w.cell? ⟨R, 3, none⟩ = some (.int .i64 0) := by simp [World.cell?, hRS.blk]
    have c4 : w.cell? ⟨R, 4, none⟩ = some (.int .i64 0) := by simp [World.cell?, hRS.blk]
    have hP := hide (fun q => Place_any R (ps st) (w.drewN q) (by simp; exact c1))
    have hF := hide (fun q => Left_any R aB (lf st).length capB (w.drewN q) (by simp; exact c0))
    simp only [endG]
    generalize ps st = pos at *
    generalize (lf st).length = ll at *
    generalize ln st = nn at *
    by_cases hl : nn = 0
    · rw [if_pos hl]
      have hlz : ¬ (0 : Int) < nn := by rw [hl]; simp
      clear hM hO hP hF c0 c1 hRS
      go_enter Tryz.func43, Tryz.ntmps43
      go_wp2
      go_quiet (fail)
      go_wp2
      go_ret2
      exact ⟨rfl, _, rfl⟩
    · rw [if_neg hl]
      have hlz : (0 : Int) < nn := by omega
      have hcast : ((pos + ll : Nat) : Int) = (pos : Int) + ll := by omega
      rw [hcast]
      clear hM hO hRS
      go_enter Tryz.func43, Tryz.ntmps43
      go_wp2
      go_quiet (first | (go_at_call 69; exact Calls.quiet_of_same (hP.out _)) | (go_at_call 70; exact Calls.quiet_of_same (hF.out _)))
      go_wp2
      go_ret2
      exact ⟨rfl, _, rfl⟩
end
end Go.Proofs.YticfcjmlphhpgabGreatDoor
namespace Go.Proofs.YticfcjmlphhpgabGreatDoor
open Go.RowKit

set_option maxRecDepth 20000 in
set_option maxHeartbeats 2000000 in
/-- A tree must come. -/
theorem MustTree_rm {X : Xt} {B R : Nat} {w : World} {left lst nds drs : Value} {pos : Nat} {list : List It} {g : Gr} (h : RM X B R w left lst nds drs pos list g) (hl : list.length ≤ 90000000) :
    Calls Tryz.prog 88 #[.pointer (some ⟨R, 0, none⟩)] w fun e w' => e = .returned (.tuple #[]) ∧ ∃ lst', RM X B R w' left lst' (.slice none 0 0) (.slice none 0 0) pos (.word wNar :: .bracket :: list) ⟨[], [], ⟨#[]⟩⟩ ∧ Below B w w' ∧ KT TS w w' := by
  have hmf : ∀ (fn : Fn) (first cap : Array Value) (w : World), (Instr.makeFunc fn first cap).run Tryz.prog w = .ok (.func fn first cap) w := fun _ _ _ _ => rfl
  have hlt := h.lt
  have hBR := h.BR
  have htl := X.tl
  have c5 : w.cell? ⟨R, 5, none⟩ = some nds := by simp [World.cell?, h.blk]
  have c6 : w.cell? ⟨R, 6, none⟩ = some drs := by simp [World.cell?, h.blk]
  have c7 : w.cell? ⟨R, 7, none⟩ = some (.string g.path) := by simp [World.cell?, h.blk]
  have f5 : w.frozen? ⟨R, 5, none⟩ = false := by simp [World.frozen?, h.blk]
  have f6 : w.frozen? ⟨R, 6, none⟩ = false := by simp [World.frozen?, h.blk]
  have f7 : w.frozen? ⟨R, 7, none⟩ = false := by simp [World.frozen?, h.blk]
  have b5 := block_set h.blk 5 (.slice none 0 0)
  have b6 := block_set b5 6 (.slice none 0 0)
  have b7 := block_set b6 7 (.string ⟨#[]⟩)
  have hTR := tyI (ts := TR) X.ok (by decide)
  have hk0 : KT TR w (((w.setCell ⟨R, 5, none⟩ (.slice none 0 0)).setCell ⟨R, 6, none⟩ (.slice none 0 0)).setCell ⟨R, 7, none⟩ (.string ⟨#[]⟩)) := (((KT.refl TR w).set h.blk hTR _ _).set b5 hTR _ _).set b6 hTR _ _
  have hb0 : Below B w (((w.setCell ⟨R, 5, none⟩ (.slice none 0 0)).setCell ⟨R, 6, none⟩ (.slice none 0 0)).setCell ⟨R, 7, none⟩ (.string ⟨#[]⟩)) := (((Below.refl B w).setCell hBR _).setCell hBR _).setCell hBR _
  have hM : RM X B R (((w.setCell ⟨R, 5, none⟩ (.slice none 0 0)).setCell ⟨R, 6, none⟩ (.slice none 0 0)).setCell ⟨R, 7, none⟩ (.string ⟨#[]⟩)) left lst (.slice none 0 0) (.slice none 0 0) pos list ⟨[], [], ⟨#[]⟩⟩ := by
    obtain ⟨ivs, h1, h2⟩ := h.its
    exact ⟨b7, hBR, ⟨ivs, h1.kept hk0 (by decide), own_kt h2 hk0 (by decide)⟩, World.ownsRow_nil _ _ _ _, World.ownsRow_nil _ _ _ _⟩
  clear h b5 b6 b7
  go_enter Tryz.func88, Tryz.ntmps88
  go_wp2
  generalize ((w.setCell ⟨R, 5, none⟩ (.slice none 0 0)).setCell ⟨R, 6, none⟩ (.slice none 0 0)).setCell ⟨R, 7, none⟩ (.string ⟨#[]⟩) = W7 at hb0 hM hk0 ⊢
  have hM0 := hide (hM.new (drewB W7))
  clear hM c5 c6 c7 f5 f6 f7
  go_region_with (first
    | (go_at_call 39; refine (Word_any wNar _).mono ?_; rintro e u1 ⟨bx1, rfl, hx1, hu1⟩; have hM1 := hide (hM0.out.new hu1); have hI1 : IsIt u1 R (.word wNar) ⟨8, .func 66, #[], #[.pointer (some ⟨bx1, 0, none⟩)]⟩ := ⟨bx1, rfl, hx1⟩)
    | (go_at_call 40; refine (Words_any (.func 104) _ _ _).mono ?_; rintro e u2 ⟨rfl, hu2⟩; have hM2 := hide (hM1.out.new hu2); have hI1 := hI1.kept (KT.new [] hu2) (by simp); have hI2 : IsIt u2 R (.bracket) ⟨8, .func 104, #[.pointer (some ⟨R, 0, none⟩)], #[]⟩ := rfl)
    | (go_at_call 38; refine (Must_rm (hM2.out.new ((Below.refl _ _).alloc (Nat.le_refl _) _)) u2.heap.size [.word wNar, .bracket] [⟨8, .func 66, #[], #[.pointer (some ⟨bx1, 0, none⟩)]⟩, ⟨8, .func 104, #[.pointer (some ⟨R, 0, none⟩)], #[]⟩] ⟨hI1.kept (KT.new [] ((Below.refl _ _).alloc (Nat.le_refl _) _)) (by simp), hI2.kept (KT.new [] ((Below.refl _ _).alloc (Nat.le_refl _) _)) (by simp), trivial⟩ (block_new u2 _) hM2.out.lstNew (by omega) (by simp)).mono ?_; rintro e uz ⟨⟨r, rfl⟩, lstz, hRMz, hbz, hkz⟩))
  all_goals
    go_wp2
    go_end0
    have hBw : B ≤ w.heap.size := by omega
    have hbz' := ((below_ext (below_ext (below_ext hb0 hBw (drewB W7)) hBw hu1) hBw hu2).alloc (by have := hu2.size; have := hu1.size; have := (drewB W7).size; have := hb0.size; omega) _).trans hbz
    exact ⟨rfl, lstz, hRMz, hbz', (((((hk0.mono (by decide)).trans (KT.new TS (drewB W7))).trans (KT.new TS hu1)).trans (KT.new TS hu2)).alloc _).trans hkz⟩
/-- The tree's reader, as a machine. -/
def TM (B R : Nat) (w : World) (left : Value) (st : St) : Prop := ∃ lst nds drs, RM X0 B R w left lst nds drs st.pos st.list st.gr
def RdAt (B R : Nat) (w : World) (rd : Rd) : Prop := RdM 86 B R St.left (TM B R) w rd
def RInv : Rd → Nat → Prop
  | .ok st, tot => Inv st tot
  | .bad _ _, _ => True
theorem stepF_ne {st : St} {e : Int} {p : Nat} (h : stepF st = .fail e p) : (e == 0) = false := by
  obtain ⟨l, pos, list, g⟩ := st
  cases list with
  | nil =>
    simp only [stepF] at h
    split at h
    · cases h
    · injection h with h _; subst h; rfl
  | cons i r =>
    simp only [stepF] at h
    cases hc : cutF l i.most with
    | wait => rw [hc] at h; cases h
    | bad er =>
      rw [hc] at h
      simp only at h
      injection h with h _
      subst h
      rcases cutF_bad hc with rfl | rfl <;> rfl
    | ok s rest n =>
      rw [hc] at h
      simp only at h
      cases ht : takeF g i ⟨s.toArray⟩ with
      | err er => rw [ht] at h; simp only at h; injection h with h _; subst h; exact takeF_err ht
      | more g' push => rw [ht] at h; cases h
theorem runS_inv : ∀ (f : Nat) (st : St) (tot : Nat), Inv st tot → RInv (runS f st) tot
  | 0, _, _, h => h
  | f + 1, st, tot, h => by
    simp only [runS, runG]
    cases hs : stepF st with
    | stop => exact h
    | fail e p => trivial
    | go st' => exact runS_inv f st' tot (h.step hs)
theorem feedF_inv {rd : Rd} {tot : Nat} (h : RInv rd tot) (s : Bs) : RInv (feedF rd s) (tot + s.length) := by
  cases rd with
  | bad e p => trivial
  | ok st => exact runS_inv _ _ _ (Inv.add h s)
theorem stepF_pos {st : St} {e : Int} {p : Nat} (hst : stepF st = .fail e p) : 0 < st.left.length := by
  rcases Nat.eq_zero_or_pos st.left.length with h0 | h0
  · exfalso
    have h0 : st.left = [] := List.eq_nil_of_length_eq_zero h0
    unfold stepF at hst
    split at hst
    · rw [if_pos h0] at hst; cases hst
    · rw [h0] at hst; simp [cutF] at hst
  · exact h0
theorem treeML : ML stepF St.left St.add := ⟨fun _ _ => rfl, fun h => by have := stepF_go h; omega, stepF_pos, stepF_ne⟩
theorem RM.setLeft {X : Xt} {B R : Nat} {w w3 : World} {left lst nds drs : Value} {pos : Nat} {list : List It} {g : Gr} (h : RM X B R w left lst nds drs pos list g) (hk : KT [5] w w3) (v : Value) : RM X B R (w3.setCell ⟨R, 0, none⟩ v) v lst nds drs pos list g := by
  obtain ⟨ivs, h1, hrs⟩ := h.rs
  obtain ⟨a1, a2⟩ := hrs.setLeft hk v
  have := a1.its
  rw [List.length_append, h1.len] at this
  exact ⟨a1.blk, a1.BR, ⟨ivs, (h1.kept hk (by decide)).kept a2 (by decide), this⟩, own_kt (own_kt h.nd hk (by decide)) a2 (by decide), own_kt (own_kt h.dr hk (by decide)) a2 (by decide)⟩
theorem treeMM (B R : Nat) : MM 86 B R St.add St.pos (fun st => st.list.length) (TM B R) where
  rs := by
    rintro w left st ⟨lst, nds, drs, h⟩
    obtain ⟨ivs, h1, hrs⟩ := h.rs
    exact ⟨_, _, _, _, _, _, hrs, by rw [List.length_append, h1.len]; rfl⟩
  set := by
    rintro w w3 left st v ⟨lst, nds, drs, h⟩ hk _
    exact ⟨lst, nds, drs, h.setLeft hk v⟩
  new := by
    rintro w w' left st ⟨lst, nds, drs, h⟩ hb
    exact ⟨lst, nds, drs, h.new hb⟩
  add := by
    rintro w left ⟨l, pos, list, g⟩ s h
    exact h
  ty := .inl rfl
theorem feedF_G (rd : Rd) (s : Bs) : feedF rd s = feedG stepF St.left St.add rd s := by cases rd <;> rfl
theorem closeF_G (rd : Rd) : (closeF rd).2 = endG St.left St.pos (fun st => st.list.length) rd := by
  cases rd with
  | bad e p => rfl
  | ok st =>
    simp only [closeF, endG]
    by_cases h : st.list = []
    · rw [if_pos h, if_pos (by rw [h]; rfl)]
    · rw [if_neg h, if_neg (fun e => h (List.eq_nil_of_length_eq_zero e))]
set_option maxRecDepth 20000 in
set_option maxHeartbeats 2000000 in
theorem treeNew_any (w : World) : Calls Tryz.prog 75 #[] w fun e w' => e = .returned (.pointer (some ⟨w.heap.size, 0, none⟩)) ∧ RdAt w.heap.size w.heap.size w' rd0 ∧ Below w.heap.size w w' := by
  have hM : RM X0 w.heap.size w.heap.size (w.alloc (.cells #[.slice none 0 0, .int .i64 0, .slice none 0 0, .int .i64 0, .int .i64 0, .slice none 0 0, .slice none 0 0, .string ⟨#[]⟩] 86)) (.slice none 0 0) (.slice none 0 0) (.slice none 0 0) (.slice none 0 0) 0 [] ⟨[], [], ⟨#[]⟩⟩ :=
    ⟨block_new w _, Nat.le_refl _, ⟨[], trivial, World.ownsRow_nil _ _ _ _⟩, World.ownsRow_nil _ _ _ _, World.ownsRow_nil _ _ _ _⟩
  have cM := hide (MustTree_rm hM (by simp))
  have hb0 := (Below.refl _ w).alloc (Nat.le_refl _) (.cells #[.slice none 0 0, .int .i64 0, .slice none 0 0, .int .i64 0, .int .i64 0, .slice none 0 0, .slice none 0 0, .string ⟨#[]⟩] 86)
  clear hM
  go_enter Tryz.func75, Tryz.ntmps75
  go_wp2_with fail
  refine cM.out.mono ?_
  rintro e w1 ⟨rfl, lst, h1, h2, _⟩
  go_wp2
  go_ret
  exact ⟨rfl, ⟨_, ⟨_, _, _, h1⟩, World.ownsRow_nil _ _ _ _⟩, hb0.trans h2⟩
theorem treeFeed_any {B R : Nat} {w : World} {rd : Rd} {tot : Nat} (h : RdAt B R w rd) (hI : RInv rd tot) (s : ByteArray) (ht : tot + s.size ≤ 50000000) (hT : Lib.Utf8Tabs 0 1 w) (hB2 : 2 ≤ B) :
    Calls Tryz.prog 42 #[.pointer (some ⟨R, 0, none⟩), .string s] w fun e w' => (∃ r, e = .returned r) ∧ RdAt B R w' (feedF rd s.data.toList) ∧ Below B w w' := by
  rw [feedF_G]
  have hsl : s.data.toList.length = s.size := by simp
  have hJl : ∀ st : St, Inv st (tot + s.data.toList.length) → st.left.length ≤ 100000000 := fun st hI => by
    have := hI.sum
    omega
  refine Feed_gen (Nat.le_refl B) treeML (treeMM B R) (fun st => Inv st (tot + s.data.toList.length)) hJl (fun st st' hI hs => hI.step hs) w rd s h ?_ ?_
  · rintro st rfl
    exact Inv.add hI _
  · rintro w2 left2 st2 hb2 ⟨lst2, nds2, drs2, hM2⟩ hL2 hJ2
    refine (step_any hM2 hL2 hJ2 (by omega) (tabs_B hB2 hT hb2) hB2).mono ?_
    intro e w' hp
    cases hst : stepF st2 with
    | stop => rw [hst] at hp; exact hp
    | fail er p => rw [hst] at hp; exact ⟨hp.1, hp.2.1, hp.2.2.1⟩
    | go st' =>
      rw [hst] at hp
      obtain ⟨h1, left', lst', nds', drs', h2, h3, h4, _⟩ := hp
      exact ⟨h1, left', ⟨lst', nds', drs', h2⟩, h3, h4⟩
theorem End_any {B R : Nat} {w : World} {rd : Rd} {tot : Nat} (h : RdAt B R w rd) (hI : RInv rd tot) (ht : tot ≤ 50000000) :
    Calls Tryz.prog 43 #[.pointer (some ⟨R, 0, none⟩)] w fun e w' => e = .returned (.tuple #[.int .i64 (closeF rd).2.1, .int .i64 ((closeF rd).2.2 : Nat)]) ∧ ∃ q, w' = w.drewN q := by
  rw [closeF_G]
  refine End_gen (treeMM B R) w rd h ?_
  rintro st rfl
  have := Inv.sum hI
  omega
end Go.Proofs.YticfcjmlphhpgabGreatDoor
