import Derived.Test.YticfcjmlphhpgabGreatDoorB08
import Derived.Test.YticfcjmlphhpgabGreatDoorB13
import Derived.Test.YticfcjmlphhpgabGreatDoorB15
import Derived.Test.YticfcjmlphhpgabGreatDoorB19
import Derived.Test.YticfcjmlphhpgabGreatDoorB20
import Derived.Test.YticfcjmlphhpgabGreatDoorB21
import Derived.Test.YticfcjmlphhpgabGreatDoorB22
import Derived.Test.YticfcjmlphhpgabGreatDoorB23
import Derived.Deep.RegionHeld3
import Derived.Maps.AppendAt
namespace Go.Proofs.YticfcjmlphhpgabGreatDoor
open Go.RowKit

end Go.Proofs.YticfcjmlphhpgabGreatDoor
namespace Go.Proofs.YticfcjmlphhpgabGreatDoor
open Go.RowKit

theorem firstW_ref (ns : List Nd) : firstW ns = refWrong ns := firstW_eq ns
end Go.Proofs.YticfcjmlphhpgabGreatDoor
namespace Go.Proofs.YticfcjmlphhpgabGreatDoor
open Go.RowKit

/-- What Get tells of a path: its nodes, its references, the sum. -/
def nodesR (S : List Ent) (p : ByteArray) : List Nd := match findS S p with
  | some E => E.nodes
  | none => []
def refsR (S : List Ent) (p : ByteArray) : List ByteArray := match findS S p with
  | some E => E.refs
  | none => []
def sumB (ns : List Nd) : ByteArray := ⟨(le (Sm.fnv (packB ns).data.toList) 8).toArray⟩
def sumR (S : List Ent) (p : ByteArray) : ByteArray := match findS S p with
  | some E => sumB E.nodes
  | none => ⟨#[]⟩
end Go.Proofs.YticfcjmlphhpgabGreatDoor
namespace Go.Proofs.YticfcjmlphhpgabGreatDoor
open Go.RowKit Go.Maps

/-- What a store must be good for. -/
structure OkS (S : List Ent) : Prop where
  closed : ClosedS S
  tree : ∀ e ∈ S, IsTree e.nodes ∧ (packB e.nodes).size ≤ 50000000
  rs : ∀ e ∈ S, ∀ r ∈ e.refs, r.size ≤ 1000000000
theorem insS_mem' {x y : Ent} : ∀ {S : List Ent}, y = x ∨ y ∈ S → y ∈ insS x S
  | [], h => by
    rcases h with rfl | h
    · exact List.mem_cons_self
    · cases h
  | z :: S, h => by
    have e2 : insS x (z :: S) = if bytesBefore x.path.data.toList z.path.data.toList = true then x :: z :: S else z :: insS x S := rfl
    rw [e2]
    split
    · rcases h with rfl | h
      · exact List.mem_cons_self
      · exact List.mem_cons_of_mem _ h
    · rcases h with rfl | h
      · exact List.mem_cons_of_mem _ (insS_mem' (.inl rfl))
      · rcases List.mem_cons.1 h with rfl | h
        · exact List.mem_cons_self
        · exact List.mem_cons_of_mem _ (insS_mem' (.inr h))
theorem insS_len (x : Ent) : ∀ S, (insS x S).length = S.length + 1
  | [] => rfl
  | z :: S => by
    have e2 : insS x (z :: S) = if bytesBefore x.path.data.toList z.path.data.toList = true then x :: z :: S else z :: insS x S := rfl
    rw [e2]
    split
    · rfl
    · rw [List.length_cons, insS_len x S]; rfl
end Go.Proofs.YticfcjmlphhpgabGreatDoor
namespace Go.Proofs.YticfcjmlphhpgabGreatDoor
open Go.RowKit

def wPath : ByteArray := ⟨#[112, 97, 116, 104]⟩
def wRefs : ByteArray := ⟨#[114, 101, 102, 115]⟩
def wRef : ByteArray := ⟨#[114, 101, 102]⟩
def wSum : ByteArray := ⟨#[115, 117, 109]⟩
def wEnd : ByteArray := ⟨#[101, 110, 100]⟩
def wExp : ByteArray := ⟨#[101, 120, 112, 111, 114, 116, 45, 49]⟩
def sumO (t : ByteArray) : ByteArray := ⟨(Sm.le (Sm.fnv t.data.toList) 8).toArray⟩
theorem sumO_size (t : ByteArray) : (sumO t).size = 8 := by
  show (Sm.le _ 8).toArray.size = 8
  rw [List.size_toArray, Sm.le_length]
end Go.Proofs.YticfcjmlphhpgabGreatDoor
namespace Go.Proofs.YticfcjmlphhpgabGreatDoor
open Go.RowKit

/-- Where an import stands: what must come next. -/
inductive Ph where
  | head
  | ent
  | path
  | tree (K : List It)
  | refs
  | ref
  | sum
  | done
structure IS where
  left : Bs
  pos : Nat
  ph : Ph
  all : List Ent
  came : List ByteArray
  added : List ByteArray
  refs : List ByteArray
  g : Gr
def lastS (l : List ByteArray) : ByteArray := l.getD (l.length - 1) ⟨#[]⟩
def sumG (g : Gr) : ByteArray := sumO (packB g.nodes)
def g0 : Gr := ⟨[], [], ⟨#[]⟩⟩
def IS.x (st : IS) : Ent := ⟨lastS st.came, st.g.nodes, st.refs⟩
inductive TkI where
  | err (e : Int)
  | more (st : IS)
def takeI (st : IS) (s : ByteArray) : TkI := match st.ph with
  | .head => if s = wExp then .more { st with ph := .ent } else .err 5
  | .ent => if s = wPath then .more { st with ph := .path } else if s = wEnd then .more { st with ph := .done } else .err 5
  | .path => if isPathB s.data.toList = false then .err 11 else if inL st.came s = true then .err 7
    else .more { st with ph := .tree [.word wNar, .bracket], came := st.came ++ [s], refs := [], g := g0 }
  | .tree [] => if s = wRefs then .more { st with ph := .refs } else .err 5
  | .tree (i :: K) => match takeF st.g i s with
    | .err e => .err e
    | .more g push => .more { st with ph := .tree (push ++ K), g := g }
  | .refs => if s = wRef then .more { st with ph := .ref } else if s = wSum then .more { st with ph := .sum } else .err 5
  | .ref => if riseL (st.refs ++ [s]) = false then .err 7 else if lackS st.all (lastS st.came) s = true then .err 13
    else .more { st with ph := .refs, refs := st.refs ++ [s] }
  | .sum => if s = sumG st.g then
      (if (putS st.all st.x).1 = 0 then .more { st with ph := .ent, all := (putS st.all st.x).2, added := if (findS st.all st.x.path).isNone = true then st.added ++ [st.x.path] else st.added }
       else .err (putS st.all st.x).1) else .err 16
  | .done => .err 10
theorem takeI_sum (l : Bs) (p : Nat) (all : List Ent) (came added refs : List ByteArray) (g : Gr) (s : ByteArray) : takeI ⟨l, p, .sum, all, came, added, refs, g⟩ s =
    if s = sumG g then (if (putS all ⟨lastS came, g.nodes, refs⟩).1 = 0 then .more ⟨l, p, .ent, (putS all ⟨lastS came, g.nodes, refs⟩).2, came, if (findS all (lastS came)).isNone = true then added ++ [lastS came] else added, refs, g⟩ else .err (putS all ⟨lastS came, g.nodes, refs⟩).1) else .err 16 := rfl
theorem takeI_ref (l : Bs) (p : Nat) (all : List Ent) (came added refs : List ByteArray) (g : Gr) (s : ByteArray) : takeI ⟨l, p, .ref, all, came, added, refs, g⟩ s =
    if riseL (refs ++ [s]) = false then .err 7 else if lackS all (lastS came) s = true then .err 13 else .more ⟨l, p, .refs, all, came, added, refs ++ [s], g⟩ := rfl
theorem takeI_path (l : Bs) (p : Nat) (all : List Ent) (came added refs : List ByteArray) (g : Gr) (s : ByteArray) : takeI ⟨l, p, .path, all, came, added, refs, g⟩ s =
    if isPathB s.data.toList = false then .err 11 else if inL came s = true then .err 7 else .more ⟨l, p, .tree [.word wNar, .bracket], all, came ++ [s], added, [], g0⟩ := rfl
def IS.most (st : IS) : Nat := match st.ph with
  | .path => 12
  | .ref => 12
  | .tree (i :: _) => i.most
  | _ => 8
def IS.ln (st : IS) : Nat := match st.ph with
  | .head => 2
  | .ent => 1
  | .path => 1
  | .tree K => K.length + 2
  | .refs => 1
  | .ref => 2
  | .sum => 2
  | .done => 0
def takenI (st : IS) : Ct → OutG IS
  | .wait => .stop
  | .bad e => .fail e st.pos
  | .ok s rest n => match takeI st ⟨s.toArray⟩ with
    | .err e => .fail e st.pos
    | .more st' => .go { st' with left := rest, pos := st.pos + n }
def stepI (st : IS) : OutG IS := if st.ln = 0 then (if st.left = [] then .stop else .fail 10 st.pos) else takenI st (cutF st.left st.most)
def IS.add (st : IS) (b : Bs) : IS := { st with left := st.left ++ b }
theorem takeI_err {st : IS} {s : ByteArray} {e : Int} (h : takeI st s = .err e) : (e == 0) = false := by
  have nz : ∀ z : Int, z ≠ 0 → (TkI.err z = TkI.err e) → (e == 0) = false := fun z hz h => by injection h with h; subst h; exact beq_eq_false_iff_ne.2 hz
  unfold takeI at h
  split at h
  · split at h <;> first | (cases h; done) | exact nz _ (by decide) h
  · split at h
    · cases h
    · split at h <;> first | (cases h; done) | exact nz _ (by decide) h
  · split at h
    · exact nz _ (by decide) h
    · split at h <;> first | (cases h; done) | exact nz _ (by decide) h
  · split at h <;> first | (cases h; done) | exact nz _ (by decide) h
  · split at h
    · rename_i ht
      injection h with h
      subst h
      exact takeF_err ht
    · cases h
  · split at h
    · cases h
    · split at h <;> first | (cases h; done) | exact nz _ (by decide) h
  · split at h
    · exact nz _ (by decide) h
    · split at h <;> first | (cases h; done) | exact nz _ (by decide) h
  · split at h
    · split at h
      · cases h
      · rename_i hz
        exact nz _ hz h
    · exact nz _ (by decide) h
  · exact nz _ (by decide) h
/-- Taking looks at neither what is left nor the place. -/
theorem takeI_add (st : IS) (s : ByteArray) (b : Bs) : takeI (st.add b) s = match takeI st s with
    | .err e => .err e
    | .more st' => .more { st' with left := st.left ++ b, pos := st.pos } := by
  obtain ⟨left, pos, ph, all, came, added, refs, g⟩ := st
  cases ph with
  | tree K =>
    cases K with
    | nil => simp only [takeI, IS.add]; split <;> rfl
    | cons i K => simp only [takeI, IS.add]; cases takeF g i s <;> rfl
  | head =>
    by_cases h1 : s = wExp
    · simp only [takeI, IS.add, if_pos h1]
    · simp only [takeI, IS.add, if_neg h1]
  | ent =>
    by_cases h1 : s = wPath
    · simp only [takeI, IS.add, if_pos h1]
    · by_cases h2 : s = wEnd
      · simp only [takeI, IS.add, if_neg h1, if_pos h2]
      · simp only [takeI, IS.add, if_neg h1, if_neg h2]
  | path =>
    by_cases h1 : isPathB s.data.toList = false
    · simp only [takeI, IS.add, if_pos h1]
    · by_cases h2 : inL came s = true
      · simp only [takeI, IS.add, if_neg h1, if_pos h2]; exact if_pos h2
      · simp only [takeI, IS.add, if_neg h1, if_neg h2]; exact if_neg h2
  | refs =>
    by_cases h1 : s = wRef
    · simp only [takeI, IS.add, if_pos h1]
    · by_cases h2 : s = wSum
      · simp only [takeI, IS.add, if_neg h1, if_pos h2]
      · simp only [takeI, IS.add, if_neg h1, if_neg h2]
  | ref =>
    by_cases h1 : riseL (refs ++ [s]) = false
    · simp only [takeI, IS.add, if_pos h1]; exact if_pos h1
    · by_cases h2 : lackS all (lastS came) s = true
      · simp only [takeI, IS.add, if_neg h1, if_pos h2]; exact (if_neg h1).trans (if_pos h2)
      · simp only [takeI, IS.add, if_neg h1, if_neg h2]; exact (if_neg h1).trans (if_neg h2)
  | sum =>
    show takeI ⟨left ++ b, pos, .sum, all, came, added, refs, g⟩ s = _
    rw [takeI_sum, takeI_sum]
    by_cases h1 : s = sumG g
    · rw [if_pos h1, if_pos h1]
      by_cases h2 : (putS all ⟨lastS came, g.nodes, refs⟩).1 = 0
      · rw [if_pos h2, if_pos h2]
      · rw [if_neg h2, if_neg h2]
    · rw [if_neg h1, if_neg h1]
  | done => rfl
theorem stepI_go {st st' : IS} (h : stepI st = .go st') : st'.left.length + 8 ≤ st.left.length ∧ st'.pos + st'.left.length = st.pos + st.left.length := by
  unfold stepI at h
  split at h
  · split at h <;> cases h
  · unfold takenI at h
    split at h
    · cases h
    · cases h
    · rename_i s rest n hc
      have hl := cutF_len hc
      split at h
      · cases h
      · injection h with h; subst h
        simp only; omega
theorem stepI_fail {st : IS} {e : Int} {p : Nat} (h : stepI st = .fail e p) : 0 < st.left.length ∧ (e == 0) = false := by
  unfold stepI at h
  split at h
  · split at h
    · cases h
    · rename_i hne
      injection h with h _
      subst h
      exact ⟨List.length_pos_iff.2 hne, rfl⟩
  · have hp : ∀ c, cutF st.left st.most = c → c ≠ .wait → 0 < st.left.length := fun c hc hw => by
      rcases Nat.eq_zero_or_pos st.left.length with h0 | h0
      · exfalso; apply hw; rw [← hc]; unfold cutF; rw [if_pos (by omega)]
      · exact h0
    cases hc : cutF st.left st.most with
    | wait => rw [hc] at h; cases h
    | bad er =>
      rw [hc] at h
      injection h with h _
      subst h
      exact ⟨hp _ hc (by simp), by rcases cutF_bad hc with rfl | rfl <;> rfl⟩
    | ok s rest n =>
      rw [hc] at h
      simp only [takenI] at h
      split at h
      · rename_i er ht
        injection h with h _
        subst h
        exact ⟨hp _ hc (by simp), takeI_err ht⟩
      · cases h
theorem impML : ML stepI IS.left IS.add := ⟨fun _ _ => rfl, fun h => by have := stepI_go h; omega, fun h => (stepI_fail h).1, fun h => (stepI_fail h).2⟩
theorem stepI_add (st : IS) (b : Bs) : (∀ st', stepI st = .go st' → stepI (st.add b) = .go (st'.add b)) ∧ (∀ e p, stepI st = .fail e p → stepI (st.add b) = .fail e p) := by
  obtain ⟨c1, c2⟩ := cutF_app st.left b st.most
  have hln : (st.add b).ln = st.ln := rfl
  have hm : (st.add b).most = st.most := rfl
  have hlf : (st.add b).left = st.left ++ b := rfl
  unfold stepI
  rw [hln, hm, hlf]
  by_cases h0 : st.ln = 0
  · rw [if_pos h0, if_pos h0]
    by_cases hl : st.left = []
    · rw [if_pos hl]; exact ⟨(fun _ h => by cases h), (fun _ _ h => by cases h)⟩
    · have h2 : ¬ (st.left ++ b = []) := by simp [hl]
      rw [if_neg hl, if_neg h2]
      exact ⟨(fun _ h => by cases h), fun _ _ h => h⟩
  · rw [if_neg h0, if_neg h0]
    cases hc : cutF st.left st.most with
    | wait => exact ⟨(fun _ h => by cases h), (fun _ _ h => by cases h)⟩
    | bad e => rw [c2 e hc]; exact ⟨(fun _ h => by cases h), fun _ _ h => h⟩
    | ok s rest n =>
      rw [c1 s rest n hc]
      simp only [takenI, takeI_add]
      cases takeI st ⟨s.toArray⟩ with
      | err e => exact ⟨(fun _ h => by cases h), fun _ _ h => h⟩
      | more st' => exact ⟨fun st2 h => by injection h with h; subst h; rfl, (fun _ _ h => by cases h)⟩
abbrev feedI := feedG stepI IS.left IS.add
theorem IS.add_add (st : IS) (a b : Bs) : (st.add a).add b = st.add (a ++ b) := by simp [IS.add, List.append_assoc]
theorem runI_app : ∀ (f : Nat) (st : IS) (b : Bs), st.left.length ≤ f → feedI (runG stepI f st) b = runG stepI (st.left.length + b.length) (st.add b)
  | 0, st, b, h => rfl
  | f + 1, st, b, h => by
    obtain ⟨a1, a2⟩ := stepI_add st b
    cases hst : stepI st with
    | stop =>
      have : runG stepI (f + 1) st = .ok st := by simp only [runG, hst]
      rw [this]; rfl
    | fail e p =>
      have h1 : runG stepI (f + 1) st = .bad e p := by simp only [runG, hst]
      rw [h1]
      have hpos := (stepI_fail hst).1
      obtain ⟨k, hk⟩ : ∃ k, st.left.length + b.length = k + 1 := ⟨st.left.length + b.length - 1, by omega⟩
      rw [hk]
      simp only [runG, a2 e p hst, feedG]
    | go st' =>
      have h1 : runG stepI (f + 1) st = runG stepI f st' := by simp only [runG, hst]
      have hl := stepI_go hst
      rw [h1, runI_app f st' b (by omega)]
      obtain ⟨k, hk⟩ : ∃ k, st.left.length + b.length = k + 1 := ⟨st.left.length + b.length - 1, by omega⟩
      rw [hk]
      simp only [runG, a1 st' hst]
      exact runG_fuel impML _ _ _ (by simp [IS.add]) (by simp [IS.add]; omega)
theorem feedI_app (r : RdG IS) (a b : Bs) : feedI (feedI r a) b = feedI r (a ++ b) := by
  cases r with
  | bad e p => rfl
  | ok st =>
    show feedI (runG stepI (st.left.length + a.length) (st.add a)) b = runG stepI (st.left.length + (a ++ b).length) (st.add (a ++ b))
    rw [runI_app _ _ _ (by simp [IS.add]), IS.add_add]
    exact runG_fuel impML _ _ _ (by simp [IS.add]; omega) (by simp [IS.add])
def is0 (S : List Ent) : RdG IS := .ok ⟨[], 0, .head, S, [], [], [], g0⟩
/-- What Import tells of bytes, and the store behind it. -/
def impEnd (S : List Ent) : RdG IS → (List ByteArray × Int × Nat) × List Ent
  | .bad e p => (([], e, p), S)
  | .ok st => if st.ln = 0 then ((st.added, 0, 0), st.all) else (([], 2, st.pos + st.left.length), S)
def importF (S : List Ent) (s : Bs) : (List ByteArray × Int × Nat) × List Ent := impEnd S (feedI (is0 S) s)
end Go.Proofs.YticfcjmlphhpgabGreatDoor
namespace Go.Proofs.YticfcjmlphhpgabGreatDoor
open Go.RowKit

theorem EntsAt.keep {P : Nat → Prop} {w w' : World} (hs : w.heap.size ≤ w'.heap.size) (hk : ∀ k, P k → w'.heap[k]? = w.heap[k]?) : ∀ {L : List (Bs × Value)} {S : List Ent}, EntsAt w L S → (∀ x ∈ L, Foot P x.2) → EntsAt w' L S
  | [], [], _, _ => trivial
  | x :: L, e :: S, h, hF => by
    refine ⟨⟨h.1.1, ?_⟩, EntsAt.keep hs hk h.2 (fun y hy => hF y (List.mem_cons_of_mem _ hy))⟩
    obtain ⟨a, n, c, hx, a', cap, hv, hc, hcells⟩ := h.1.2
    refine ⟨a, n, c, hx, a', cap, hv, hc, fun hl => ?_⟩
    obtain ⟨b, off, ha, hb, hj⟩ := hcells hl
    refine ⟨b, off, ha, by omega, fun j hjl => ?_⟩
    have hfo := hF x (by simp) _ a n c hx
    injection hv with hv _ _
    have := hk b (hfo ⟨b, off, Option.none⟩ n c (by rw [hv, ha]))
    rw [← hj j hjl]
    simp only [World.cell?, this]
  | [], _ :: _, h, _ => h.elim
  | _ :: _, [], h, _ => h.elim
theorem PStF.keep {F F' : Nat → Prop} {w w' : World} {b : Nat} {S : List Ent} (h : PStF F w b S) (hs : w.heap.size ≤ w'.heap.size) (hb : w'.heap[b]? = w.heap[b]?) (hk : ∀ k, k < w.heap.size → F k → w'.heap[k]? = w.heap[k]? ∧ F' k) : PStF F' w' b S := by
  obtain ⟨L, h1, h2, h3⟩ := h
  exact ⟨L, h1.blk hb, h2.keep hs (fun k hk' => (hk k hk'.2 hk'.1).1) h3, fun x hx => (h3 x hx).mono fun k hk' => ⟨(hk k hk'.2 hk'.1).2, Nat.lt_of_lt_of_le hk'.2 hs⟩⟩
/-- Whether the references of the entry that is read are the importer's own yet. -/
def live : Ph → Bool
  | .tree _ => true
  | .refs => true
  | .ref => true
  | .sum => true
  | _ => false
/-- Where the lists of entries may lie: below, or where none of the importer's rows is. -/
def FI (F : Nat → Prop) (B : Nat) (w : World) (cv rv av : Value) (lv : Bool) (k : Nat) : Prop := (k < B ∧ F k) ∨ B ≤ k ∧ (∃ cs fz, w.heap[k]? = some (.cells cs 9 fz)) ∧ cv.ownBlock ≠ some k ∧ av.ownBlock ≠ some k ∧ (lv = true → rv.ownBlock ≠ some k)
structure IR (F : Nat → Prop) (B b : Nat) (w : World) (cv rv av : Value) (lv : Bool) (S : List Ent) (came added refs : List ByteArray) : Prop where
  ca : w.ownsRow B 9 1 cv came.length (came.map Value.string)
  ad : w.ownsRow B 9 1 av added.length (added.map Value.string)
  rf : lv = true → w.ownsRow B 9 1 rv refs.length (refs.map Value.string)
  d1 : ∀ k, cv.ownBlock = some k → av.ownBlock ≠ some k
  d2 : lv = true → ∀ k, rv.ownBlock = some k → cv.ownBlock ≠ some k ∧ av.ownBlock ≠ some k
  ps : PStF (FI F B w cv rv av lv) w b S
  lt : b < B
section
variable {F : Nat → Prop} {B b R : Nat} {w w' : World} {cv rv av : Value} {lv : Bool} {S : List Ent} {came added refs : List ByteArray}
theorem IR.kt {ts : List TypeId} (h : IR F B b w cv rv av lv S came added refs) (hb : Below B w w') (hk : KT ts w w') (h9 : ¬ 9 ∈ ts) : IR F B b w' cv rv av lv S came added refs :=
  ⟨own_kt h.ca hk h9, own_kt h.ad hk h9, fun hl => own_kt (h.rf hl) hk h9, h.d1, h.d2, h.ps.keep hb.size (hb.block _ h.lt) (fun k _ hf => by
    rcases hf with hf | ⟨hBk, ⟨cs, fz, hc⟩, h1, h2, h3⟩
    · exact ⟨hb.block _ hf.1, .inl hf⟩
    · have := hk _ _ _ _ hc h9
      exact ⟨this.trans hc.symm, .inr ⟨hBk, ⟨cs, fz, this⟩, h1, h2, h3⟩⟩), h.lt⟩
theorem IR.new (h : IR F B b w cv rv av lv S came added refs) (hb : Below w.heap.size w w') (hB : B ≤ w.heap.size) : IR F B b w' cv rv av lv S came added refs := h.kt (hb.mono hB) (KT.new [] hb) (by simp)
/-- A phase later, where the importer's own references are let go. -/
theorem IR.dead {rv' : Value} {refs' : List ByteArray} (h : IR F B b w cv rv av lv S came added refs) : IR F B b w cv rv' av false S came added refs' :=
  ⟨h.ca, h.ad, (fun hl => by cases hl), h.d1, (fun hl => by cases hl), h.ps.mono (fun k hk => by
    rcases hk with hk | hk
    · exact .inl hk
    · exact .inr ⟨hk.1, hk.2.1, hk.2.2.1, hk.2.2.2.1, (fun hl => by cases hl)⟩), h.lt⟩
/-- A new, empty list of references. -/
theorem IR.nil {rv' : Value} (h : IR F B b w cv rv' av false S came added refs) : IR F B b w cv (.slice none 0 0) av true S came added [] :=
  ⟨h.ca, h.ad, fun _ => World.ownsRow_nil _ _ _ _, h.d1, (fun _ k hk => by cases hk), h.ps.mono (fun k hk => by
    rcases hk with hk | hk
    · exact .inl hk
    · exact .inr ⟨hk.1, hk.2.1, hk.2.2.1, hk.2.2.2.1, (fun _ e => by cases e)⟩), h.lt⟩
end
def ivX (R : Nat) : IV := ⟨8, .func 41, #[.pointer (some ⟨R, 0, none⟩)], #[]⟩
def ivP (R : Nat) : IV := ⟨12, .func 67, #[.pointer (some ⟨R, 0, none⟩)], #[]⟩
def ivR (R : Nat) : IV := ⟨8, .func 87, #[.pointer (some ⟨R, 0, none⟩)], #[]⟩
def ivF (R : Nat) : IV := ⟨12, .func 102, #[.pointer (some ⟨R, 0, none⟩)], #[]⟩
def ivW (bx : Nat) : IV := ⟨8, .func 66, #[], #[.pointer (some ⟨bx, 0, none⟩)]⟩
def ivS (b1 b2 b3 : Nat) : IV := ⟨8, .func 123, #[], #[.pointer (some ⟨b1, 0, none⟩), .pointer (some ⟨b2, 0, none⟩), .pointer (some ⟨b3, 0, none⟩)]⟩
/-- What must come besides what the tree's reader waits for. -/
def TailAt (w : World) (R : Nat) (g : Gr) : Ph → List IV → Prop
  | .head, t => ∃ bx, t = [ivW bx, ivX R] ∧ w.heap[bx]? = some (.cells #[.string wExp] 9 (0, 0))
  | .ent, t => t = [ivX R]
  | .path, t => t = [ivP R]
  | .tree _, t => ∃ bx, t = [ivW bx, ivR R] ∧ w.heap[bx]? = some (.cells #[.string wRefs] 9 (0, 0))
  | .refs, t => t = [ivR R]
  | .ref, t => t = [ivF R, ivR R]
  | .sum, t => ∃ b1 b2 b3, t = [ivS b1 b2 b3, ivX R] ∧ w.heap[b1]? = some (.cells #[.string (sumG g)] 9 (0, 0)) ∧ w.heap[b2]? = some (.cells #[.pointer (some ⟨R, 0, none⟩)] 75 (0, 0)) ∧ w.heap[b3]? = some (.cells #[.string (packB g.nodes)] 9 (0, 0))
  | .done, t => t = []
theorem TailAt.kt {ts : List TypeId} {w w' : World} {R : Nat} {g : Gr} {ph : Ph} {t : List IV} (h : TailAt w R g ph t) (hk : KT ts w w') (h9 : ¬ 9 ∈ ts) (h6 : ¬ 75 ∈ ts) : TailAt w' R g ph t := by
  cases ph with
  | head => obtain ⟨bx, h1, h2⟩ := h; exact ⟨bx, h1, hk _ _ _ _ h2 h9⟩
  | tree K => obtain ⟨bx, h1, h2⟩ := h; exact ⟨bx, h1, hk _ _ _ _ h2 h9⟩
  | sum => obtain ⟨b1, b2, b3, h1, h2, h3, h4⟩ := h; exact ⟨b1, b2, b3, h1, hk _ _ _ _ h2 h9, hk _ _ _ _ h3 h6, hk _ _ _ _ h4 h9⟩
  | _ => exact h
def treeK : Ph → List It
  | .tree K => K
  | _ => []
def XI (b : Nat) (cv rv av : Value) (tail : List IV) (h : tail.length ≤ 1000) : Xt := ⟨88, [.map (some b), cv, rv, av], tail, .inr rfl, h⟩
/-- The importer in memory. -/
def IM (F : Nat → Prop) (B R b : Nat) (w : World) (left : Value) (st : IS) : Prop :=
  ∃ lst nds drs cv rv av tail htl, RM (XI b cv rv av tail htl) B R w left lst nds drs st.pos (treeK st.ph) st.g ∧ TailAt w R st.g st.ph tail ∧ IR F B b w cv rv av (live st.ph) st.all st.came st.added st.refs
theorem tail_len {w : World} {R : Nat} {g : Gr} {ph : Ph} {t : List IV} (h : TailAt w R g ph t) : (treeK ph).length + t.length = IS.ln ⟨[], 0, ph, [], [], [], [], g⟩ := by
  cases ph with
  | head => obtain ⟨bx, rfl, _⟩ := h; rfl
  | tree K => obtain ⟨bx, rfl, _⟩ := h; rfl
  | sum => obtain ⟨b1, b2, b3, rfl, _⟩ := h; rfl
  | ent => cases h; rfl
  | path => cases h; rfl
  | refs => cases h; rfl
  | ref => cases h; rfl
  | done => cases h; rfl
theorem impMM (F : Nat → Prop) (B R b : Nat) : MM 88 B R IS.add IS.pos IS.ln (IM F B R b) where
  rs := by
    rintro w left st ⟨lst, nds, drs, cv, rv, av, tail, htl, h, ht, hi⟩
    obtain ⟨ivs, h1, hrs⟩ := h.rs
    refine ⟨_, _, _, _, _, _, hrs, ?_⟩
    have := tail_len ht
    rw [List.length_append, h1.len]
    exact this
  set := by
    rintro w w3 left st v ⟨lst, nds, drs, cv, rv, av, tail, htl, h, ht, hi⟩ hk hb
    obtain ⟨ivs, h1, hrs⟩ := h.rs
    obtain ⟨_, hk2⟩ := hrs.setLeft hk v
    exact ⟨lst, nds, drs, cv, rv, av, tail, htl, h.setLeft hk v, (ht.kt hk (by decide) (by decide)).kt hk2 (by decide) (by decide), (hi.kt hb hk (by decide)).kt ((Below.refl B w3).setCell h.BR _) hk2 (by decide)⟩
  new := by
    rintro w w' left st ⟨lst, nds, drs, cv, rv, av, tail, htl, h, ht, hi⟩ hb
    exact ⟨lst, nds, drs, cv, rv, av, tail, htl, h.new hb, ht.kt (KT.new [] hb) (by simp) (by simp), hi.new hb (by have := h.lt; have := h.BR; omega)⟩
  add := by
    rintro w left ⟨l, pos, ph, all, came, added, refs, g⟩ s h
    exact h
  ty := .inr rfl
/-- What an importer's step may turn besides its map. -/
def TSI : List TypeId := [86, 88, 92, 43, 164, 9]
/-- What taking a string leaves. -/
def TIPost (F : Nat → Prop) (B0 B R b : Nat) (w : World) (left : Value) (pos : Nat) (r : TkI) (e : Ending) (w' : World) : Prop := match r with
  | .err er => e = .returned (.int .i64 er) ∧ RBlk 88 R w' ∧ Below B0 w w'
  | .more st' => e = .returned (.int .i64 0) ∧ IM F B R b w' left { st' with pos := pos } ∧ Below B0 w w' ∧ KT TSI w w'
/-- One string more, where no tree is read. -/
theorem step_imp {F : Nat → Prop} {B0 B R b : Nat} {w : World} {left lst nds drs cv rv av : Value} {st : IS} {x : IV} {y : List IV} {htl : (x :: y).length ≤ 1000} (h0 : B0 ≤ B) (hln : st.ln ≠ 0)
    (h : RM (XI b cv rv av (x :: y) htl) B R w left lst nds drs st.pos [] st.g) (hi : IR F B b w cv rv av (live st.ph) st.all st.came st.added st.refs) (hL : LeftAt w left st.left) (hl : st.left.length ≤ 100000000) (hp : st.pos ≤ 100000000)
    (hmost : st.most ≤ 100) (k : FuncId) (first cap : Array Value) (hx : x = ⟨st.most, .func k, first, cap⟩) (hent : ∀ args w, (callFunc k args).run Tryz.prog w = .ok (.enter k args) w)
    (ht : ∀ (w1 : World) (left1 lst1 : Value) (pos1 : Nat) (s : ByteArray) (hy : y.length ≤ 1000), s.size ≤ st.most → Below B w w1 → KT TR w w1 → RM (XI b cv rv av y hy) B R w1 left1 lst1 nds drs pos1 [] st.g → IR F B b w1 cv rv av (live st.ph) st.all st.came st.added st.refs → Calls Tryz.prog k (first ++ #[.string s] ++ cap) w1 (TIPost F B0 B R b w1 left1 pos1 (takeI st s))) :
    StepSaid 88 B0 B R stepI IS.left (IM F B R b) w st := by
  obtain ⟨ivs, h1, hrs⟩ := h.rs
  cases ivs with
  | cons a c => exact h1.elim
  | nil =>
    have hyl : y.length ≤ 1000 := by rw [List.length_cons] at htl; omega
    have hBw : B0 ≤ w.heap.size := by have := h.lt; have := h.BR; omega
    refine step_gen (y := y) hrs hL hl hp (by omega) st.most hmost k first cap hx hent _ ?_ ?_ ?_
    · intro hc w' hb
      have e1 : stepI st = .stop := by simp only [stepI, if_neg hln, hc, takenI]
      rw [e1]
      exact ⟨rfl, hb⟩
    · intro er hc w' hbad hb _
      have e1 : stepI st = .fail er st.pos := by simp only [stepI, if_neg hln, hc, takenI]
      rw [e1]
      exact ⟨rfl, hbad, hb.mono h0⟩
    · intro s rst c hc w1 left1 lst1 hr1 hL1 hb1 hk1
      have hcl := cutF_len hc
      have hM1 : RM (XI b cv rv av y hyl) B R w1 left1 lst1 nds drs (st.pos + c) [] st.g := ⟨hr1.blk, hr1.BR, ⟨[], trivial, by rw [List.length_nil, Nat.zero_add]; exact hr1.its⟩, own_kt h.nd hk1 (by decide), own_kt h.dr hk1 (by decide)⟩
      refine (ht w1 left1 lst1 (st.pos + c) ⟨s.toArray⟩ hyl (by rw [ba_size]; omega) hb1 hk1 hM1 (hi.kt hb1 hk1 (by decide))).mono ?_
      intro e w2 hp2
      cases htk : takeI st ⟨s.toArray⟩ with
      | err er =>
        rw [htk] at hp2
        obtain ⟨rfl, hR2, hb2⟩ := hp2
        refine .inr ⟨er, takeI_err htk, rfl, hR2, fun w' hbad hb _ => ?_⟩
        have e1 : stepI st = .fail er st.pos := by simp only [stepI, if_neg hln, hc, takenI, htk]
        rw [e1]
        exact ⟨rfl, hbad, ((hb1.mono h0).trans hb2).trans (hb.mono h0)⟩
      | more st' =>
        rw [htk] at hp2
        obtain ⟨rfl, hM2, hb2, hk2⟩ := hp2
        refine .inl ⟨rfl, ?_⟩
        have e1 : stepI st = .go { st' with left := rst, pos := st.pos + c } := by simp only [stepI, if_neg hln, hc, takenI, htk]
        rw [e1]
        exact ⟨rfl, left1, hM2, hL1.kept hk2 (by decide), (hb1.mono h0).trans hb2⟩
end Go.Proofs.YticfcjmlphhpgabGreatDoor
namespace Go.Proofs.YticfcjmlphhpgabGreatDoor
open Go.RowKit

section
variable {F : Nat → Prop} {B0 B R b : Nat} {w w3 : World} {left lst nds drs cv rv av : Value} {pos : Nat} {g : Gr} {S : List Ent} {came added refs : List ByteArray} {lv : Bool} {tail : List IV} {htl : tail.length ≤ 1000}
/-- What Must is called with, and leaves, where no tree is read. -/
theorem Must_tail (h : RM (XI b cv rv av tail htl) B R w left lst nds drs pos [] g) (bb : Nat) (its : List IV) (hb : w.heap[bb]? = some (.cells (flatI its).toArray 92 (0, 0))) (hbv : some bb ≠ lst.ownBlock) (hlen : its.length ≤ 10) (htl' : (its ++ tail).length ≤ 1000) :
    Calls Tryz.prog 38 #[.pointer (some ⟨R, 0, none⟩), .slice (some ⟨bb, 0, none⟩) its.length its.length] w fun e w' => (∃ r, e = .returned r) ∧ ∃ lst', RM (XI b cv rv av (its ++ tail) htl') B R w' left lst' nds drs pos [] g ∧ Below B w w' ∧ KT TS w w' := by
  obtain ⟨ivs, h1, h2⟩ := h.its
  cases ivs with
  | cons a c => exact h1.elim
  | nil =>
    have hBw : B ≤ w.heap.size := by have := h.lt; have := h.BR; omega
    rw [List.nil_append, List.length_nil, Nat.zero_add] at h2
    refine (Must_any B R bb w _ _ lst 88 _ tail.length _ its h.blk h2 h.BR hBw hb hbv (by omega) (by omega) (by decide)).mono ?_
    rintro e w' ⟨he, v', a1, a2, a3, a4, a5⟩
    have hkt : KT [86, 88, 92] w w' := kt_k2 h2 h.blk a4 _ (tyI (.inr rfl) (by decide)) (by decide)
    refine ⟨he, v', ⟨a1, h.BR, ⟨[], trivial, ?_⟩, own_kt h.nd hkt (by decide), own_kt h.dr hkt (by decide)⟩, a3, hkt.mono (by decide)⟩
    show w'.ownsRow B 92 2 v' (0 + (its ++ tail).length) (flatI ([] ++ (its ++ tail)).reverse)
    rw [List.nil_append, List.reverse_append, flatI_append, List.length_append, Nat.zero_add, Nat.add_comm its.length]
    exact a2
/-- A cell behind the reader's own is stored. -/
theorem RM.setMore {cv' rv' av' : Value} (h : RM (XI b cv rv av tail htl) B R w left lst nds drs pos [] g) (hk : KT [9] w w3) (hb : Below B w w3) (j : Nat) (v : Value) (hj : ((⟨left :: .int .i64 pos :: lst :: .int .i64 0 :: .int .i64 0 :: nds :: drs :: .string g.path :: (XI b cv rv av tail htl).more⟩ : Array Value).setIfInBounds j v) = ⟨left :: .int .i64 pos :: lst :: .int .i64 0 :: .int .i64 0 :: nds :: drs :: .string g.path :: (XI b cv' rv' av' tail htl).more⟩) :
    RM (XI b cv' rv' av' tail htl) B R (w3.setCell ⟨R, j, none⟩ v) left lst nds drs pos [] g ∧ Below B w (w3.setCell ⟨R, j, none⟩ v) ∧ KT TR w3 (w3.setCell ⟨R, j, none⟩ v) := by
  have hR3 := hk _ _ _ _ h.blk (tyN (.inr rfl) (by decide))
  have hk2 : KT TR w3 (w3.setCell ⟨R, j, none⟩ v) := (KT.refl TR w3).set hR3 (tyI (.inr rfl) (by decide)) _ _
  obtain ⟨ivs, h1, h2⟩ := h.its
  have hs := block_set hR3 j v
  rw [hj] at hs
  cases ivs with
  | cons a c => exact h1.elim
  | nil => exact ⟨⟨hs, h.BR, ⟨[], trivial, own_kt (own_kt h2 hk (by decide)) hk2 (by decide)⟩, own_kt (own_kt h.nd hk (by decide)) hk2 (by decide), own_kt (own_kt h.dr hk (by decide)) hk2 (by decide)⟩, hb.setCell h.BR _, hk2⟩
theorem RM.more (h : RM (XI b cv rv av tail htl) B R w left lst nds drs pos [] g) : (w.cell? ⟨R, 8, none⟩ = some (.map (some b)) ∧ w.cell? ⟨R, 9, none⟩ = some cv ∧ w.cell? ⟨R, 10, none⟩ = some rv ∧ w.cell? ⟨R, 11, none⟩ = some av) ∧ ∀ j, w.frozen? ⟨R, j, none⟩ = false := by
  have hb := h.blk
  simp only [XI] at hb
  exact ⟨⟨by simp [World.cell?, hb], by simp [World.cell?, hb], by simp [World.cell?, hb], by simp [World.cell?, hb]⟩, fun j => by simp [World.frozen?, hb]⟩
theorem grown_not {row : Option Nat} {v : Value} {B e s n : Nat} {xs : List Value} (h : w.ownsRow B e s v n xs) (hg : w.grownBy w3 row) (hd : ∀ k, v.ownBlock = some k → row ≠ some k) : w3.ownsRow B e s v n xs :=
  h.kept hg (by
    cases hv : v.ownBlock with
    | none => exact .inl rfl
    | some k => exact .inr fun e' => hd k hv e'.symm)
/-- Where a list lies behind an append. -/
def Hat (w : World) (v v' : Value) : Prop := ∀ k, v'.ownBlock = some k → v.ownBlock = some k ∨ w.heap.size ≤ k
theorem Hat.of {v v' : Value} {w w1 : World} (hs : w.heap.size ≤ w1.heap.size) (h : v'.ownBlock = v.ownBlock ∨ v'.ownBlock = some w1.heap.size) : Hat w v v' := fun k hk => by
  rcases h with h | h
  · exact .inl (h ▸ hk)
  · rw [h] at hk
    cases hk
    exact .inr hs
theorem PStF.grown {F F' : Nat → Prop} {row : Option Nat} (h : PStF F w b S) (hg : w.grownBy w3 row) (hb : row ≠ some b) (hF : ∀ k, k < w.heap.size → F k → row ≠ some k ∧ (w3.heap[k]? = w.heap[k]? → F' k)) : PStF F' w3 b S :=
  h.keep hg.size (hg.block b h.lt hb.symm) fun k hk hf => by
    have := hg.block k hk (hF k hk hf).1.symm
    exact ⟨this, (hF k hk hf).2 this⟩
theorem own_ge {v : Value} {e s n : Nat} {xs : List Value} (h : w.ownsRow B e s v n xs) {k : Nat} (hk : v.ownBlock = some k) : B ≤ k ∧ k < w.heap.size := h.lt k hk
/-- A path more has come. -/
theorem IR.cameN {cv' : Value} {s : ByteArray} (h : IR F B b w cv rv av lv S came added refs) (ho : w3.ownsRow B 9 1 cv' (came.length + 1) (came.map Value.string ++ [.string s])) (hg : w.grownBy w3 cv.ownBlock) (hat : Hat w cv cv') : IR F B b w3 cv' rv av lv S (came ++ [s]) added refs := by
  refine ⟨by rw [List.length_append, List.map_append]; exact ho, grown_not h.ad hg (fun k hk e => h.d1 k e hk), fun hl => grown_not (h.rf hl) hg (fun k hk e => (h.d2 hl k hk).1 e), fun k hk e => ?_, fun hl k hk => ⟨fun e => ?_, (h.d2 hl k hk).2⟩, h.ps.grown hg (fun e => ?_) (fun k hk hf => ?_), h.lt⟩
  · rcases hat k hk with h1 | h1
    · exact h.d1 k h1 e
    · have := (own_ge h.ad e).2; omega
  · rcases hat k e with h1 | h1
    · exact (h.d2 hl k hk).1 h1
    · have := (own_ge (h.rf hl) hk).2; omega
  · have := (own_ge h.ca e).1; have := h.lt; omega
  · rcases hf with hf | ⟨hBk, ⟨cs, fz, hc⟩, h1, h2, h3⟩
    · exact ⟨fun e => by have := (own_ge h.ca e).1; have := hf.1; omega, fun _ => .inl hf⟩
    · refine ⟨h1, fun e => .inr ⟨hBk, ⟨cs, fz, e.trans hc⟩, fun e' => ?_, h2, h3⟩⟩
      rcases hat k e' with h4 | h4
      · exact h1 h4
      · omega
theorem IR.add {av' : Value} {s : ByteArray} (h : IR F B b w cv rv av lv S came added refs) (ho : w3.ownsRow B 9 1 av' (added.length + 1) (added.map Value.string ++ [.string s])) (hg : w.grownBy w3 av.ownBlock) (hat : Hat w av av') : IR F B b w3 cv rv av' lv S came (added ++ [s]) refs := by
  refine ⟨grown_not h.ca hg (fun k hk e => h.d1 k hk e), by rw [List.length_append, List.map_append]; exact ho, fun hl => grown_not (h.rf hl) hg (fun k hk e => (h.d2 hl k hk).2 e), fun k hk e => ?_, fun hl k hk => ⟨(h.d2 hl k hk).1, fun e => ?_⟩, h.ps.grown hg (fun e => ?_) (fun k hk hf => ?_), h.lt⟩
  · rcases hat k e with h1 | h1
    · exact h.d1 k hk h1
    · have := (own_ge h.ca hk).2; omega
  · rcases hat k e with h1 | h1
    · exact (h.d2 hl k hk).2 h1
    · have := (own_ge (h.rf hl) hk).2; omega
  · have := (own_ge h.ad e).1; have := h.lt; omega
  · rcases hf with hf | ⟨hBk, ⟨cs, fz, hc⟩, h1, h2, h3⟩
    · exact ⟨fun e => by have := (own_ge h.ad e).1; have := hf.1; omega, fun _ => .inl hf⟩
    · refine ⟨h2, fun e => .inr ⟨hBk, ⟨cs, fz, e.trans hc⟩, h1, fun e' => ?_, h3⟩⟩
      rcases hat k e' with h4 | h4
      · exact h2 h4
      · omega
theorem IR.ref {rv' : Value} {s : ByteArray} (h : IR F B b w cv rv av true S came added refs) (ho : w3.ownsRow B 9 1 rv' (refs.length + 1) (refs.map Value.string ++ [.string s])) (hg : w.grownBy w3 rv.ownBlock) (hat : Hat w rv rv') : IR F B b w3 cv rv' av true S came added (refs ++ [s]) := by
  have hrf := h.rf rfl
  have hd2 := h.d2 rfl
  refine ⟨grown_not h.ca hg (fun k hk e => (hd2 k e).1 hk), grown_not h.ad hg (fun k hk e => (hd2 k e).2 hk), fun _ => by rw [List.length_append, List.map_append]; exact ho, h.d1, fun _ k hk => ?_, h.ps.grown hg (fun e => ?_) (fun k hk hf => ?_), h.lt⟩
  · rcases hat k hk with h1 | h1
    · exact hd2 k h1
    · exact ⟨fun e => by have := (own_ge h.ca e).2; omega, fun e => by have := (own_ge h.ad e).2; omega⟩
  · have := (own_ge hrf e).1; have := h.lt; omega
  · rcases hf with hf | ⟨hBk, ⟨cs, fz, hc⟩, h1, h2, h3⟩
    · exact ⟨fun e => by have := (own_ge hrf e).1; have := hf.1; omega, fun _ => .inl hf⟩
    · refine ⟨h3 rfl, fun e => .inr ⟨hBk, ⟨cs, fz, e.trans hc⟩, h1, h2, fun _ e' => ?_⟩⟩
      rcases hat k e' with h4 | h4
      · exact h3 rfl h4
      · omega
end
theorem path_list : wPath.toList = [112, 97, 116, 104] := by rw [ByteArray.toList_eq]; rfl
theorem end_list : wEnd.toList = [101, 110, 100] := by rw [ByteArray.toList_eq]; rfl
section
variable {F : Nat → Prop} {B0 B R b : Nat} {w : World} {left lst nds drs cv rv av : Value} {pos : Nat} {st : IS} {h0 : ([] : List IV).length ≤ 1000}
set_option maxRecDepth 20000 in
set_option maxHeartbeats 2000000 in
theorem takeInExport_any (hB0 : B0 ≤ B) (h : RM (XI b cv rv av [] h0) B R w left lst nds drs pos [] st.g) (hi : IR F B b w cv rv av (live st.ph) st.all st.came st.added st.refs) (hph : st.ph = .ent) (s : ByteArray) :
    Calls Tryz.prog 41 #[.pointer (some ⟨R, 0, none⟩), .string s] w (TIPost F B0 B R b w left pos (takeI st s)) := by
  obtain ⟨left0, pos0, ph, all, came, added, refs, g⟩ := st
  simp only at hph h hi
  subst hph
  have hmf : ∀ (fn : Fn) (first cap : Array Value) (w : World), (Instr.makeFunc fn first cap).run Tryz.prog w = .ok (.func fn first cap) w := fun _ _ _ _ => rfl
  have hBw : B ≤ w.heap.size := by have := h.lt; have := h.BR; omega
  simp only [takeI]
  by_cases h1 : s = wPath
  · rw [if_pos h1]
    have hb1 : (s.toList == [112, 97, 116, 104]) = true := by rw [h1, path_list]; rfl
    have hal := (Below.refl _ w).alloc (Nat.le_refl _) (.cells #[.int .i64 12, .func (.func 67) #[.pointer (some ⟨R, 0, none⟩)] #[]] 92)
    have hM1 := h.new hal
    have hn1 := h.lstNew
    have cM := hide (Must_tail hM1 w.heap.size [ivP R] (block_new w _) hn1 (by simp) (by simp))
    have HI := hide (hi.new hal hBw)
    clear h hi h1 hM1
    go_enter Tryz.func41, Tryz.ntmps41
    go_wp2_with fail
    refine cM.out.mono ?_
    rintro e uz ⟨⟨r, rfl⟩, lstz, hRMz, hbz, hkz⟩
    have hI2 := hide (HI.out.kt hbz hkz (by decide))
    have hF := hide (show IM F B R b uz left ⟨left0, pos, .path, all, came, added, refs, g⟩ from ⟨lstz, nds, drs, cv, rv, av, _, _, hRMz, rfl, hI2.out⟩)
    clear hRMz cM
    go_wp2
    go_ret
    exact ⟨rfl, hF.out, ((hal.mono hBw).trans hbz).mono hB0, (KT.new TSI hal).trans (hkz.mono (by decide))⟩
  · rw [if_neg h1]
    have hb1 : (s.toList == [112, 97, 116, 104]) = false := by rw [← path_list]; exact eqB_false h1
    by_cases h2 : s = wEnd
    · rw [if_pos h2]
      have hb2 : (s.toList == [101, 110, 100]) = true := by rw [h2, end_list]; rfl
      have hF := hide (show IM F B R b w left ⟨left0, pos, .done, all, came, added, refs, g⟩ from ⟨lst, nds, drs, cv, rv, av, _, _, h, rfl, hi⟩)
      clear h hi h1 h2
      go_enter Tryz.func41, Tryz.ntmps41
      go_wp2
      go_ret
      exact ⟨rfl, hF.out, Below.refl _ _, KT.refl _ _⟩
    · rw [if_neg h2]
      have hb2 : (s.toList == [101, 110, 100]) = false := by rw [← end_list]; exact eqB_false h2
      have hR := hide h.rblk
      clear h hi h1 h2
      go_enter Tryz.func41, Tryz.ntmps41
      go_wp2
      go_ret
      exact ⟨rfl, hR.out, Below.refl _ _⟩
end
end Go.Proofs.YticfcjmlphhpgabGreatDoor
namespace Go.Proofs.YticfcjmlphhpgabGreatDoor
open Go.RowKit

set_option maxRecDepth 20000 in
set_option maxHeartbeats 1000000 in
theorem TreeBytes_any (R : Nat) (v : Value) (ns : List Nd) (w : World) (hT : Lib.Utf8Tabs 0 1 w) (c5 : w.cell? ⟨R, 5, none⟩ = some v) (hv : SliceN w v ns) (hsm : Small ns) (hf : firstW ns = none) :
    Calls Tryz.prog 122 #[.pointer (some ⟨R, 0, none⟩)] w fun e w' => e = .returned (.string (packB ns)) ∧ Below w.heap.size w w' := by
  have cP := hide (treePack_any v ns w hT hv hsm)
  rw [packRes_none hf] at cP
  clear hT hv hf
  go_enter Tryz.func122, Tryz.ntmps122
  go_wp2_with fail
  refine cP.out.mono ?_
  rintro e w1 ⟨rfl, hb⟩
  go_wp2
  go_ret
  exact ⟨rfl, hb⟩
set_option maxRecDepth 20000 in
set_option maxHeartbeats 1000000 in
theorem sum_any (R : Nat) (v : Value) (ns : List Nd) (w : World) (hR : R < w.heap.size) (hT : Lib.Utf8Tabs 0 1 w) (c5 : w.cell? ⟨R, 5, none⟩ = some v) (hv : SliceN w v ns) (hsm : Small ns) (hf : firstW ns = none) (hsz : (packB ns).size ≤ maxLen) :
    Calls Tryz.prog 103 #[.pointer (some ⟨R, 0, none⟩)] w fun e w' => ∃ b1 b2 b3, e = .returned (.agg #[.int .i64 8, .func (.func 123) #[] #[.pointer (some ⟨b1, 0, none⟩), .pointer (some ⟨b2, 0, none⟩), .pointer (some ⟨b3, 0, none⟩)]]) ∧ w'.heap[b1]? = some (.cells #[.string (sumO (packB ns))] 9 (0, 0)) ∧ w'.heap[b2]? = some (.cells #[.pointer (some ⟨R, 0, none⟩)] 75 (0, 0)) ∧ w'.heap[b3]? = some (.cells #[.string (packB ns)] 9 (0, 0)) ∧ Below w.heap.size w w' := by
  have hmf : ∀ (fn : Fn) (first cap : Array Value) (w : World), (Instr.makeFunc fn first cap).run Tryz.prog w = .ok (.func fn first cap) w := fun _ _ _ _ => rfl
  have hb0 : Below w.heap.size w ((w.alloc (.cells #[.pointer (some ⟨R, 0, none⟩)] 75)).alloc (.cells #[.int .i64 0, .nilFunc] 92)) := ((Below.refl _ w).alloc (Nat.le_refl _) _).alloc (by simp) _
  have cT := hide (TreeBytes_any R v ns _ (Utf8Tabs_below hT hb0) ((hb0.cell (p := ⟨R, 5, none⟩) hR).trans c5) (hv.below hb0) hsm hf)
  have hp0 := block_keep (.cells #[.int .i64 0, .nilFunc] 92) (block_new w (.cells #[.pointer (some ⟨R, 0, none⟩)] 75))
  have hr0 := block_new (w.alloc (.cells #[.pointer (some ⟨R, 0, none⟩)] 75)) (.cells #[.int .i64 0, .nilFunc] 92)
  rw [World.size_alloc] at hr0
  have hs0 : ((w.alloc (.cells #[.pointer (some ⟨R, 0, none⟩)] 75)).alloc (.cells #[.int .i64 0, .nilFunc] 92)).heap.size = w.heap.size + 2 := by simp
  have x0 : ((w.alloc (.cells #[.pointer (some ⟨R, 0, none⟩)] 75)).alloc (.cells #[.int .i64 0, .nilFunc] 92)).cell? ⟨w.heap.size, 0, none⟩ = some (.pointer (some ⟨R, 0, none⟩)) := by simp [World.cell?, hp0]
  clear hT hv hf c5
  obtain ⟨T, hT⟩ : ∃ T, sumO (packB ns) = T := ⟨_, rfl⟩
  have hT8 : (T.size : Int) = 8 := by rw [← hT, sumO_size]; rfl
  rw [hT]
  have hT := hide hT
  go_enter Tryz.func103, Tryz.ntmps103
  go_wp2_with fail
  refine cT.out.mono ?_
  rintro e w1 ⟨rfl, hb1⟩
  have hp1 := (hb1.block _ (by omega)).trans hp0
  have hr1 := (hb1.block _ (by omega)).trans hr0
  have hbw1 := hb0.trans (hb1.mono hb0.size)
  have hs1 := hb1.size
  rw [hs0] at hs1
  clear cT hp0 hr0 hb1 x0 hb0 hs0
  have cS : Calls Tryz.prog 29 #[.string (packB ns)] (w1.alloc (.cells #[.string (packB ns)] 9)) fun e w' => e = .returned (.string (sumO (packB ns))) ∧ Below (w1.alloc (.cells #[.string (packB ns)] 9)).heap.size (w1.alloc (.cells #[.string (packB ns)] 9)) w' := Sm.wireSum_any (packB ns) _ hsz
  rw [hT.out] at cS
  have CS := hide cS
  clear cS
  go_wp2_with fail
  refine CS.out.mono ?_
  rintro e w2 ⟨rfl, hb2⟩
  have hs2 := hb2.size
  rw [World.size_alloc] at hs2
  have hp2 := (hb2.block _ (by simp; omega)).trans (block_keep (.cells #[.string (packB ns)] 9) hp1)
  have hr2 := (hb2.block _ (by simp; omega)).trans (block_keep (.cells #[.string (packB ns)] 9) hr1)
  have hq2 := (hb2.block _ (by simp)).trans (block_new w1 (.cells #[.string (packB ns)] 9))
  have hbw2 := (hbw1.alloc (by omega) (.cells #[.string (packB ns)] 9)).trans (hb2.mono (by simp; omega))
  clear CS hp1 hr1 hb2 hbw1
  have hr3 := block_keep (.cells #[.string T] 9) hr2
  have c0 : (w2.alloc (.cells #[.string T] 9)).cell? ⟨w.heap.size + 1, 0, none⟩ = some (.int .i64 0) := by simp [World.cell?, hr3]
  have c1 : (w2.alloc (.cells #[.string T] 9)).cell? ⟨w.heap.size + 1, 1, none⟩ = some .nilFunc := by simp [World.cell?, hr3]
  have f0 : (w2.alloc (.cells #[.string T] 9)).frozen? ⟨w.heap.size + 1, 0, none⟩ = false := by simp [World.frozen?, hr3]
  have f1 : (w2.alloc (.cells #[.string T] 9)).frozen? ⟨w.heap.size + 1, 1, none⟩ = false := by simp [World.frozen?, hr3]
  go_wp2
  (try simp only [Exit.inBlock, Exit.then])
  have h3 := block_set (block_set hr3 0 (.int .i64 8)) 1 (.func (.func 123) #[] #[.pointer (some ⟨w2.heap.size, 0, none⟩), .pointer (some ⟨w.heap.size, 0, none⟩), .pointer (some ⟨w1.heap.size, 0, none⟩)])
  refine bodyPost_ret (results_cell_row rfl _ _ (w.heap.size + 1) 92 _ (0, 0) _ rfl h3 Tryz.underlying92 rfl (by kernel_rfl)) rfl ?_
  refine ⟨w2.heap.size, w.heap.size, w1.heap.size, rfl, ?_, ?_, ?_, ?_⟩
  · rw [Below.heap_setCell _ _ _ _ (by simp; omega), Below.heap_setCell _ _ _ _ (by simp; omega)]; exact block_new w2 _
  · rw [Below.heap_setCell _ _ _ _ (by simp), Below.heap_setCell _ _ _ _ (by simp)]; exact block_keep _ hp2
  · rw [Below.heap_setCell _ _ _ _ (by simp; omega), Below.heap_setCell _ _ _ _ (by simp; omega)]; exact block_keep _ hq2
  · exact ((hbw2.alloc (by omega) _).setCell (p := ⟨w.heap.size + 1, 0, none⟩) (by simp) _).setCell (p := ⟨w.heap.size + 1, 1, none⟩) (by simp) _
end Go.Proofs.YticfcjmlphhpgabGreatDoor
namespace Go.Proofs.YticfcjmlphhpgabGreatDoor
open Go.RowKit

theorem ref_list : wRef.toList = [114, 101, 102] := by rw [ByteArray.toList_eq]; rfl
theorem sum_list : wSum.toList = [115, 117, 109] := by rw [ByteArray.toList_eq]; rfl
/-- A tree that has been read. -/
structure GOk (g : Gr) : Prop where
  right : firstW g.nodes = none
theorem GOk.small {g : Gr} (h : GOk g) : Small g.nodes := by
  obtain ⟨h1, h2⟩ := tree_small h.right
  exact ⟨by omega, fun n hn => by have := h2 n hn; omega⟩
theorem bulk_tree : ∀ (l : List Nd), (∀ n ∈ l, n.path.size ≤ 244 ∧ n.data.size ≤ 100) → bulk l ≤ l.length * 1344
  | [], _ => Nat.le_refl _
  | n :: r, h => by
    have h1 := h n (by simp)
    have h2 := bulk_tree r fun m hm => h m (List.mem_cons_of_mem _ hm)
    simp only [bulk, List.length_cons]
    omega
theorem packB_bulk (ns : List Nd) : (packB ns).size ≤ 100 + bulk ns := by
  have e : (packB ns).size = (packBytes ns).length := by unfold packB; simp [ByteArray.size]
  rw [e]
  cases ns with
  | nil => simp [packBytes]
  | cons n r =>
    have h1 := nodeF_bulk (entsF r.length) (entsF_bulk r.length) n r
    have h2 := bytesOf_cons wNar []
    rw [bytesOf_nil] at h2
    have h3 : wNar.size = 5 := rfl
    simp only [packBytes, List.length_append]
    omega
theorem GOk.size {g : Gr} (h : GOk g) : (packB g.nodes).size ≤ 50000 := by
  obtain ⟨h1, h2⟩ := tree_small h.right
  have h3 := bulk_tree g.nodes h2
  have h4 := packB_bulk g.nodes
  omega
section
variable {F : Nat → Prop} {B0 B R b : Nat} {w : World} {left lst nds drs cv rv av : Value} {pos : Nat} {st : IS} {h0 : ([] : List IV).length ≤ 1000}
set_option maxRecDepth 20000 in
set_option maxHeartbeats 4000000 in
theorem takeInRefs_any (hB0 : B0 ≤ B) (h : RM (XI b cv rv av [] h0) B R w left lst nds drs pos [] st.g) (hi : IR F B b w cv rv av (live st.ph) st.all st.came st.added st.refs) (hph : st.ph = .refs) (hT : Lib.Utf8Tabs 0 1 w) (hg : GOk st.g) (s : ByteArray) :
    Calls Tryz.prog 87 #[.pointer (some ⟨R, 0, none⟩), .string s] w (TIPost F B0 B R b w left pos (takeI st s)) := by
  obtain ⟨left0, pos0, ph, all, came, added, refs, g⟩ := st
  simp only at hph h hi hg
  subst hph
  have hi' : IR F B b w cv rv av true all came added refs := hi
  have hmf : ∀ (fn : Fn) (first cap : Array Value) (w : World), (Instr.makeFunc fn first cap).run Tryz.prog w = .ok (.func fn first cap) w := fun _ _ _ _ => rfl
  have hBw : B ≤ w.heap.size := by have := h.lt; have := h.BR; omega
  simp only [takeI]
  by_cases h1 : s = wRef
  · rw [if_pos h1]
    have hb1 : (s.toList == [114, 101, 102]) = true := by rw [h1, ref_list]; rfl
    have hM0 := hide (h.new (drewB w))
    have HI := hide hi'
    clear h hi hi' h1 hT hg
    go_enter Tryz.func87, Tryz.ntmps87
    go_wp2
    go_region_with (first
      | (go_at_call 40; refine (Words_any (.func 87) _ _ _).mono ?_; rintro e w5 ⟨rfl, hb5⟩; have hM9 := hide (hM0.out.new hb5))
      | (go_at_call 38; refine (Must_tail (hM9.out.new ((Below.refl _ _).alloc (Nat.le_refl _) _)) w5.heap.size [ivF R, ivR R] (block_new w5 _) hM9.out.lstNew (by simp) (by simp)).mono ?_; rintro e w6 ⟨⟨r, rfl⟩, lst6, hM10, hb6, hk6⟩))
    all_goals
      have hw5 : w.heap.size ≤ w5.heap.size := Nat.le_trans (drewB w).size hb5.size
      have hBa : Below B w (w5.alloc (.cells (flatI [ivF R, ivR R]).toArray 92)) := (below_ext (below_ext (Below.refl B w) hBw (drewB w)) hBw hb5).alloc (by omega) _
      have hBz : Below B w w6 := hBa.trans hb6
      have hKz : KT TSI w w6 := ((((KT.new TSI (drewB w)).trans (KT.new TSI hb5)).alloc _).trans (hk6.mono (by decide)))
      have hIz := (((HI.out.new (drewB w) hBw).new hb5 (by have := (drewB w).size; omega)).new ((Below.refl _ _).alloc (Nat.le_refl _) (.cells (flatI [ivF R, ivR R]).toArray 92)) (by omega)).kt hb6 hk6 (by decide)
      have hF := hide (show IM F B R b w6 left ⟨left0, pos, .ref, all, came, added, refs, g⟩ from ⟨lst6, _, _, _, _, _, _, _, hM10, rfl, hIz⟩)
      clear hM10 hIz
      go_wp2
      go_ret
      exact ⟨rfl, hF.out, hBz.mono hB0, hKz⟩
  · rw [if_neg h1]
    have hb1 : (s.toList == [114, 101, 102]) = false := by rw [← ref_list]; exact eqB_false h1
    by_cases h2 : s = wSum
    · rw [if_pos h2]
      have hb2 : (s.toList == [115, 117, 109]) = true := by rw [h2, sum_list]; rfl
      have hM0 := hide (h.new (drewB w))
      have HI := hide hi'
      have hlt := h.lt
      have c5 : w.drew.cell? ⟨R, 5, none⟩ = some nds := by simp [World.cell?, hM0.out.blk]
      have cS := hide (sum_any R nds g.nodes w.drew hlt (Utf8Tabs_below hT (drewB w)) c5 (own_nodes hM0.out.nd).1 hg.small hg.right (by have := hg.size; unfold maxLen; omega))
      clear h hi hi' h1 h2 hT hg c5
      go_enter Tryz.func87, Tryz.ntmps87
      go_wp2
      go_region_with (first
        | (go_at_call 103; refine cS.out.mono ?_; rintro e w4 ⟨x1, x2, x3, rfl, hx1, hx2, hx3, hb4⟩; have hM8 := hide (hM0.out.new hb4))
        | (go_at_call 40; refine (Words_any (.func 41) _ _ _).mono ?_; rintro e w5 ⟨rfl, hb5⟩; have hM9 := hide (hM8.out.new hb5); have hy1 := (hb5.block _ (lt_of_block hx1)).trans hx1; have hy2 := (hb5.block _ (lt_of_block hx2)).trans hx2; have hy3 := (hb5.block _ (lt_of_block hx3)).trans hx3)
        | (go_at_call 38; refine (Must_tail (hM9.out.new ((Below.refl _ _).alloc (Nat.le_refl _) _)) w5.heap.size [ivS x1 x2 x3, ivX R] (block_new w5 _) hM9.out.lstNew (by simp) (by simp)).mono ?_; rintro e w6 ⟨⟨r, rfl⟩, lst6, hM10, hb6, hk6⟩))
      all_goals
        have hw5 : w.heap.size ≤ w5.heap.size := Nat.le_trans (drewB w).size (Nat.le_trans hb4.size hb5.size)
        have hBa : Below B w (w5.alloc (.cells (flatI [ivS x1 x2 x3, ivX R]).toArray 92)) := (below_ext (below_ext (below_ext (Below.refl B w) hBw (drewB w)) hBw hb4) hBw hb5).alloc (by omega) _
        have hBz : Below B w w6 := hBa.trans hb6
        have hKz : KT TSI w w6 := (((((KT.new TSI (drewB w)).trans (KT.new TSI hb4)).trans (KT.new TSI hb5)).alloc _).trans (hk6.mono (by decide)))
        have hIz := ((((HI.out.new (drewB w) hBw).new hb4 (by have := (drewB w).size; omega)).new hb5 (by have := (drewB w).size; have := hb4.size; omega)).new ((Below.refl _ _).alloc (Nat.le_refl _) (.cells (flatI [ivS x1 x2 x3, ivX R]).toArray 92)) (by omega)).kt hb6 hk6 (by decide)
        have hz1 := hk6 _ _ _ _ (block_keep (.cells (flatI [ivS x1 x2 x3, ivX R]).toArray 92) hy1) (by decide)
        have hz2 := hk6 _ _ _ _ (block_keep (.cells (flatI [ivS x1 x2 x3, ivX R]).toArray 92) hy2) (by decide)
        have hz3 := hk6 _ _ _ _ (block_keep (.cells (flatI [ivS x1 x2 x3, ivX R]).toArray 92) hy3) (by decide)
        have hF := hide (show IM F B R b w6 left ⟨left0, pos, .sum, all, came, added, refs, g⟩ from ⟨lst6, _, _, _, _, _, _, _, hM10, ⟨x1, x2, x3, rfl, hz1, hz2, hz3⟩, hIz⟩)
        clear hM10 hIz hz1 hz2 hz3
        go_wp2
        go_ret
        exact ⟨rfl, hF.out, hBz.mono hB0, hKz⟩
    · rw [if_neg h2]
      have hb2 : (s.toList == [115, 117, 109]) = false := by rw [← sum_list]; exact eqB_false h2
      have hR := hide h.rblk
      clear h hi hi' h1 h2 hT hg
      go_enter Tryz.func87, Tryz.ntmps87
      go_wp2
      go_ret
      exact ⟨rfl, hR.out, Below.refl _ _⟩
end
theorem lastS_get (l : List ByteArray) (k : Nat) (h : l.length = k + 1) : lastS l = l[k]'(by omega) := by simp [lastS, h, List.getD]
set_option maxRecDepth 20000 in
set_option maxHeartbeats 400000 in
theorem impPath_any {B R : Nat} {w : World} {cv : Value} {came : List ByteArray} (c9 : w.cell? ⟨R, 9, none⟩ = some cv) (ho : w.ownsRow B 9 1 cv came.length (came.map Value.string)) (hne : came ≠ []) (hl : came.length ≤ 100000000) :
    Calls Tryz.prog 121 #[.pointer (some ⟨R, 0, none⟩)] w fun e w' => e = .returned (.string (lastS came)) ∧ ∃ q, w' = w.drewN q := by
  obtain ⟨k, hk⟩ : ∃ k, came.length = k + 1 := ⟨came.length - 1, by have := List.length_pos_iff.2 hne; omega⟩
  rw [lastS_get came k hk]
  obtain ⟨gC, capC, rfl, hcC⟩ := own_form ho (by omega)
  have d0 : w.cell? ⟨gC, k, none⟩ = some (.string (came[k]'(by omega))) := (ho.cellAt k (by omega)).trans (by simp [hk])
  rw [hk] at c9 hcC
  generalize (came[k]'(by omega)) = x at d0
  clear ho hne
  go_enter Tryz.func121, Tryz.ntmps121
  go_wp2
  go_quiet (fail)
  go_wp2
  go_ret
  exact ⟨rfl, _, rfl⟩
section
variable {F : Nat → Prop} {B0 B R b : Nat} {w : World} {left lst nds drs cv rv av : Value} {pos : Nat} {st : IS} {tail : List IV} {htl : tail.length ≤ 1000}
theorem RM.kt9 {w3 : World} {g : Gr} (h : RM (XI b cv rv av tail htl) B R w left lst nds drs pos [] g) (hk : KT [9] w w3) : RM (XI b cv rv av tail htl) B R w3 left lst nds drs pos [] g := by
  obtain ⟨ivs, h1, h2⟩ := h.its
  cases ivs with
  | cons a c => exact h1.elim
  | nil => exact ⟨hk _ _ _ _ h.blk (tyN (.inr rfl) (by decide)), h.BR, ⟨[], trivial, own_kt h2 hk (by decide)⟩, own_kt h.nd hk (by decide), own_kt h.dr hk (by decide)⟩
theorem IR.lacks {w : World} {lv : Bool} {S : List Ent} {came added refs : List ByteArray} (h : IR F B b w cv rv av lv S came added refs) (p r : ByteArray) (hr : r.size ≤ 1000000000) :
    Calls Tryz.prog 50 #[.map (some b), .string p, .string r] w fun e w' => e = .returned (.bool (!lackS S p r)) ∧ Below w.heap.size w w' := by
  obtain ⟨L, h1, h2⟩ := h.ps.st
  refine (mayRefer_any b p r L w h1 h2.ents hr).mono ?_
  rintro e w' ⟨rfl, hb⟩
  exact ⟨by unfold lackS; rw [h2.none], hb⟩
set_option maxRecDepth 20000 in
set_option maxHeartbeats 4000000 in
theorem takeRef_any (hB0 : B0 ≤ B) (htail : tail = [ivR R]) (h : RM (XI b cv rv av tail htl) B R w left lst nds drs pos [] st.g) (hi : IR F B b w cv rv av (live st.ph) st.all st.came st.added st.refs) (hph : st.ph = .ref) (hne : st.came ≠ []) (hcl : st.came.length ≤ 100000000) (hrl : st.refs.length ≤ 100000000) (s : ByteArray) (hs : s.size ≤ 100) :
    Calls Tryz.prog 102 #[.pointer (some ⟨R, 0, none⟩), .string s] w (TIPost F B0 B R b w left pos (takeI st s)) := by
  obtain ⟨left0, pos0, ph, all, came, added, refs, g⟩ := st
  simp only at hph h hi hne hcl hrl
  subst hph
  have hi' : IR F B b w cv rv av true all came added refs := hi
  have hBw : B ≤ w.heap.size := by have := h.lt; have := h.BR; omega
  obtain ⟨⟨_, _, c10, _⟩, fz⟩ := h.more
  obtain ⟨ra, rc, hrv, _⟩ := own_sl (hi'.rf rfl)
  obtain ⟨i9, hi9, h90, h91, h92⟩ := info_parts Tryz.info9
  have H := hide h
  have HI := hide hi'
  have hlt := h.lt
  have hBR := h.BR
  obtain ⟨T, hT⟩ : ∃ T, takeI ⟨left0, pos0, .ref, all, came, added, refs, g⟩ s = T := ⟨_, rfl⟩
  rw [hT]
  rw [takeI_ref] at hT
  have HTk := hide hT
  subst hrv
  clear h hi hi' hT fz
  go_enter Tryz.func102, Tryz.ntmps102
  go_wp2_with (at_builtin; refine wpList_append_own_at _ rfl (.tmp 9) (.tmp 11) 23 rfl B 9 i9 (.string ⟨#[]⟩) 1 16 Tryz.underlying23 hi9 h90 h91 h92 rfl (by decide) _ _ _ rfl ((HI.out.rf rfl).alloc _) ⟨w.heap.size, 0, none⟩ 1 1 [.string s] rfl rfl (cell_one_at _ _ _ _ rfl) (fun x hx => by simp at hx; subst hx; rfl) (by unfold maxLen; omega) (by omega) (by simp; omega) ?_; intro v3 w3 hown3 hgrow3 hnil3 hat3; obtain ⟨a3, c3, rfl, _⟩ := own_sl hown3)
  have hal := (Below.refl _ w).alloc (Nat.le_refl _) (.cells #[.string s] 9)
  have hB3 : Below B w w3 := (hal.mono hBw).grown hgrow3 (by simp; omega) (fun k hk => ((HI.out.rf rfl).lt k hk).1)
  have hK3 : KT [9] w w3 := ((KT.refl [9] w).alloc _).grown ((HI.out.rf rfl).alloc _) hgrow3 (by decide)
  have hM3 := hide (H.out.kt9 hK3)
  have hI3 : Hid (IR F B b w3 cv (.slice a3 (refs.length + 1) c3) av true all came added (refs ++ [s])) := hide ((HI.out.new hal hBw).ref hown3 hgrow3 (Hat.of (Nat.le_refl _) hat3))
  have hs3 := hB3.size
  have cR := hide (rise_any (.slice a3 (refs.length + 1) c3) (refs ++ [s]) w3 (own_strs (hI3.out.rf rfl)) (by simp; omega))
  have HB3 := hide hB3
  have HK3 := hide hK3
  clear hown3 hgrow3 hat3 hnil3 hB3 hK3 c10 H HI
  go_wp2_with fail
  refine cR.out.mono ?_
  rintro e w4 ⟨rfl, hb4⟩
  have hM4 := hide (hM3.out.new hb4)
  have hI4 := hide (hI3.out.new hb4 (by omega))
  have hB4 := hide (below_ext HB3.out hBw hb4)
  have hs4 := hb4.size
  have hK4 : Hid (KT TSI w w4) := hide ((HK3.out.mono (by decide)).trans (KT.new TSI hb4))
  clear cR hM3 hI3 HB3 HK3 hb4
  cases hr : riseL (refs ++ [s]) with
  | false =>
    obtain rfl : T = .err 7 := by rw [← HTk.out, if_pos hr]
    go_wp2
    go_ret
    exact ⟨rfl, hM4.out.rblk, hB4.out.mono hB0⟩
  | true =>
    have hTk := HTk.out
    rw [if_neg (by rw [hr]; simp)] at hTk
    have HT2 := hide hTk
    obtain ⟨⟨c8, c9, c10, _⟩, fz⟩ := hM4.out.more
    have cP := hide (fun W (hb : Below w4.heap.size w4 W) => impPath_any (w := W) (((hb.cell (p := ⟨R, 9, none⟩) hM4.out.lt)).trans c9) (own_below hI4.out.ca hb) hne hcl)
    have cM := hide (fun W (hb : Below w4.heap.size w4 W) => (hI4.out.new hb (by omega)).lacks (lastS came) s (by omega))
    generalize lastS came = lp at cP cM HT2
    clear HTk hTk hr c9
    go_wp2
    cases hl : lackS all lp s with
    | true =>
      rw [hl] at cM
      obtain rfl : T = .err 13 := by rw [← HT2.out, if_pos hl]
      go_region_with (first
        | (go_at_call 121; refine (cP.out _ (drewB w4)).mono ?_; rintro e w5 ⟨rfl, q, rfl⟩)
        | (go_at_call 50; refine (cM.out _ (drewNB w4 (1 + q))).mono ?_; rintro e w6 ⟨rfl, hb6⟩))
      all_goals
        have hb64 := (drewNB w4 (1 + q)).trans (hb6.mono (drewNB w4 (1 + q)).size)
        have hR6 := hide (hM4.out.new hb64).rblk
        go_wp2
        go_ret
        exact ⟨rfl, hR6.out, (below_ext hB4.out hBw hb64).mono hB0⟩
    | false =>
      rw [hl] at cM
      obtain rfl : T = .more ⟨left0, pos0, .refs, all, came, added, refs ++ [s], g⟩ := by rw [← HT2.out, if_neg (by rw [hl]; simp)]
      go_region_with (first
        | (go_at_call 121; refine (cP.out _ (drewB w4)).mono ?_; rintro e w5 ⟨rfl, q, rfl⟩)
        | (go_at_call 50; refine (cM.out _ (drewNB w4 (1 + q))).mono ?_; rintro e w6 ⟨rfl, hb6⟩))
      all_goals
        have hb64 := (drewNB w4 (1 + q)).trans (hb6.mono (drewNB w4 (1 + q)).size)
        have hM6 := hM4.out.new hb64
        obtain ⟨⟨_, _, d10, _⟩, fz6⟩ := hM6.more
        have f10 := fz6 10
        obtain ⟨m1, b1, k1⟩ := hM6.setMore (cv' := cv) (rv' := .slice a3 (refs.length + 1) c3) (av' := av) (KT.refl [9] _) (Below.refl B _) 10 (.slice a3 (refs.length + 1) c3) rfl
        have i1 := (hI4.out.new hb64 (by omega)).kt ((Below.refl B w6).setCell hBR _) k1 (by decide)
        have hF := hide (show IM F B R b (w6.setCell ⟨R, 10, none⟩ (.slice a3 (refs.length + 1) c3)) left ⟨left0, pos, .refs, all, came, added, refs ++ [s], g⟩ from ⟨lst, _, _, _, _, _, _, _, m1, htail, i1⟩)
        have hBz := hide ((below_ext hB4.out hBw hb64).trans b1)
        have hKz := hide ((hK4.out.trans (KT.new TSI hb64)).trans (k1.mono (by decide)))
        clear m1 b1 k1 i1 hM6 fz6
        go_wp2
        go_ret
        exact ⟨rfl, hF.out, hBz.out.mono hB0, hKz.out⟩
end
end Go.Proofs.YticfcjmlphhpgabGreatDoor
namespace Go.Proofs.YticfcjmlphhpgabGreatDoor
open Go.RowKit

theorem tree_of {ns : List Nd} (h : firstW ns = none) : IsTree ns ∧ (packB ns).size ≤ 50000 := by
  obtain ⟨h1, h2⟩ := tree_small h
  have h3 := bulk_tree ns h2
  have h4 := packB_bulk ns
  exact ⟨IsTree.mk (by rw [← firstW_eq]; exact h) ⟨by omega, fun n hn => by have := h2 n hn; omega⟩ (by omega), by omega⟩
theorem sub_len {α : Type} [DecidableEq α] : ∀ (l L : List α), l.Nodup → (∀ x ∈ l, x ∈ L) → l.length ≤ L.length
  | [], _, _, _ => Nat.zero_le _
  | x :: r, L, hn, hm => by
    have hn := List.nodup_cons.1 hn
    have hx := hm x List.mem_cons_self
    have h1 := sub_len r (L.erase x) hn.2 (fun y hy => (List.mem_erase_of_ne (fun e => by subst e; exact hn.1 hy)).2 (hm y (List.mem_cons_of_mem _ hy)))
    have h2 := List.length_erase_of_mem hx
    have h3 := List.length_pos_of_mem hx
    rw [List.length_cons]
    omega
theorem riseL_lt {l : List ByteArray} (h : riseL l = true) (j : Nat) (hj : j + 1 < l.length) : bl l[j].data.toList l[j + 1].data.toList = true := by
  cases hn : notAbove l[j + 1] l[j] with
  | true => rw [riseL_no j hj hn] at h; cases h
  | false =>
    rw [notAbove_eq] at hn
    simpa using hn
theorem riseL_all {l : List ByteArray} (h : riseL l = true) (i : Nat) : ∀ (n : Nat) (hj : i + n + 1 < l.length), bl l[i].data.toList l[i + n + 1].data.toList = true
  | 0, hj => riseL_lt h i hj
  | n + 1, hj => bl_trans _ _ _ (riseL_all h i n (by omega)) (riseL_lt h (i + n + 1) (by omega))
theorem riseL_nodup {l : List ByteArray} (h : riseL l = true) : l.Nodup := by
  unfold List.Nodup
  rw [List.pairwise_iff_getElem]
  intro i j hi hj hij e
  obtain ⟨n, rfl⟩ : ∃ n, j = i + n + 1 := ⟨j - i - 1, by omega⟩
  have := riseL_all h i n hj
  rw [e, bl_irr] at this
  cases this
/-- A store whose paths are short, and references few. -/
structure OkE (S : List Ent) : Prop where
  ok : OkS S
  path : ∀ e ∈ S, e.path.size ≤ 12
  few : ∀ e ∈ S, e.refs.length ≤ 10
theorem OkE.put {S : List Ent} (h : OkE S) {x : Ent} (hp : x.path.size ≤ 12) (hw : firstW x.nodes = none) (hr : riseL x.refs = true) (hl : ∀ r ∈ x.refs, lackS S x.path r = false) : OkE (putS S x).2 := by
  unfold putS
  cases hf : findS S x.path with
  | some e => exact h
  | none =>
    simp only
    by_cases hfull : 10 ≤ S.length
    · rw [if_pos hfull]; exact h
    · rw [if_neg hfull]
      have hin : ∀ r ∈ x.refs, r = x.path ∨ ∃ f ∈ S, f.path = r := fun r hm => by
        by_cases e1 : r = x.path
        · exact .inl e1
        · have := hl r hm
          unfold lackS at this
          rw [decide_eq_false e1] at this
          exact .inr (findS_not (by simpa using this))
      have hlen : x.refs.length ≤ 10 := by
        have := sub_len x.refs (x.path :: S.map (·.path)) (riseL_nodup hr) (fun r hm => by
          rcases hin r hm with rfl | ⟨f, hf, rfl⟩
          · exact List.mem_cons_self
          · exact List.mem_cons_of_mem _ (List.mem_map_of_mem hf))
        rw [List.length_cons, List.length_map] at this
        omega
      have hsz : ∀ r ∈ x.refs, r.size ≤ 12 := fun r hm => by
        rcases hin r hm with rfl | ⟨f, hf, rfl⟩
        · exact hp
        · exact h.path f hf
      have ht := tree_of hw
      refine ⟨⟨⟨fun e he r hm => ?_, by rw [insS_len]; omega, fun e he => ?_, fun e he => ?_, Rising.ins h.ok.closed.rise hf⟩, fun e he => ?_, fun e he => ?_⟩, fun e he => ?_, fun e he => ?_⟩
      · rcases insS_mem he with rfl | he
        · rcases hin r hm with rfl | ⟨f, hf1, hf2⟩
          · exact ⟨e, insS_mem' (.inl rfl), rfl⟩
          · exact ⟨f, insS_mem' (.inr hf1), hf2⟩
        · obtain ⟨f, hf1, hf2⟩ := h.ok.closed.ref e he r hm
          exact ⟨f, insS_mem' (.inr hf1), hf2⟩
      · rcases insS_mem he with rfl | he
        · omega
        · exact h.ok.closed.refs e he
      · rcases insS_mem he with rfl | he
        · omega
        · exact h.ok.closed.path e he
      · rcases insS_mem he with rfl | he
        · exact ⟨ht.1, by have := ht.2; omega⟩
        · exact h.ok.tree e he
      · rcases insS_mem he with rfl | he
        · intro r hm
          have := hsz r hm
          omega
        · exact h.ok.rs e he
      · rcases insS_mem he with rfl | he
        · exact hp
        · exact h.path e he
      · rcases insS_mem he with rfl | he
        · exact hlen
        · exact h.few e he
theorem OkE.insert {S : List Ent} (h : OkE S) (x : Ent) : OkE (insertF S x).2 := by
  unfold insertF
  split
  · exact h
  · rename_i hp
    split
    · exact h
    · rename_i hw
      split
      · exact h
      · rename_i hr
        split
        · exact h
        · rename_i hany
          refine h.put ?_ ?_ ?_ fun r hm => ?_
          · have hp' : isPathB x.path.data.toList = true := by
              cases hb : isPathB x.path.data.toList with
              | true => rfl
              | false => exact absurd hb hp
            unfold isPathB at hp'
            simp only [Bool.and_eq_true, decide_eq_true_eq] at hp'
            have : x.path.data.toList.length = x.path.size := by simp
            omega
          · cases hfw : firstW x.nodes with
            | none => rfl
            | some k => rw [hfw] at hw; simp at hw
          · cases hb : riseL x.refs with
            | true => rfl
            | false => exact absurd hb hr
          · cases hb : lackS S x.path r with
            | false => rfl
            | true => exact absurd (List.any_eq_true.2 ⟨r, hm, hb⟩) hany
end Go.Proofs.YticfcjmlphhpgabGreatDoor
namespace Go.Proofs.YticfcjmlphhpgabGreatDoor
open Go.RowKit Go.Maps

def errG (S : List Ent) (p : ByteArray) : Int := if (findS S p).isSome = true then 0 else 15
set_option maxRecDepth 20000 in
set_option maxHeartbeats 2000000 in
theorem narGet_any (q b : Nat) (S : List Ent) (p : ByteArray) (w : World) (h : NSt w q b S) (hO : OkS S) (hT : Lib.Utf8Tabs 0 1 w) (hs : p.size ≤ 1000000000) :
    Calls Tryz.prog 15 #[.pointer (some ⟨q, 0, none⟩), .string p] w fun e w' => ∃ ta tc ra rc, e = .returned (.tuple #[.agg #[.slice ta (nodesR S p).length tc, .slice ra (refsR S p).length rc, .string (sumR S p)], .int .i64 (errG S p)]) ∧ w'.ownsRow w.heap.size 43 3 (.slice ta (nodesR S p).length tc) (nodesR S p).length (flat3 (nodesR S p)) ∧ w'.ownsRow w.heap.size 9 1 (.slice ra (refsR S p).length rc) (refsR S p).length ((refsR S p).map Value.string) ∧ Below w.heap.size w w' := by
  obtain ⟨W, hW⟩ : ∃ W, w.alloc (.cells #[.slice none 0 0, .slice none 0 0, .string ⟨#[]⟩] 46) = W := ⟨_, rfl⟩
  have hb0 : Below w.heap.size w W := by rw [← hW]; exact (Below.refl _ w).alloc (Nat.le_refl _) _
  have k0 : W.heap[w.heap.size]? = some (.cells #[.slice none 0 0, .slice none 0 0, .string ⟨#[]⟩] 46 (0, 0)) := by rw [← hW]; exact block_new w _
  have h := h.below hb0
  have hT2 := tabs2 hT
  have hT := tabsB hT2 hT hb0
  have cE := hide (entries_any q b W h.1)
  have cG : Hid (Calls Tryz.prog 28 #[.map (some b), .string p] W fun e w' => ∃ ta tc ra rc, e = .returned (.tuple #[.agg #[.slice ta (nodesR S p).length tc, .slice ra (refsR S p).length rc, .string (sumR S p)], .int .i64 (errG S p)]) ∧ w'.ownsRow W.heap.size 43 3 (.slice ta (nodesR S p).length tc) (nodesR S p).length (flat3 (nodesR S p)) ∧ w'.ownsRow W.heap.size 9 1 (.slice ra (refsR S p).length rc) (refsR S p).length ((refsR S p).map Value.string) ∧ Below W.heap.size W w') := hide (by
    unfold nodesR refsR sumR errG
    cases hf : findS S p with
    | none =>
      refine (Get_none b S p W h.2 hf hs).mono ?_
      rintro e w' ⟨rfl, hb⟩
      exact ⟨none, 0, none, 0, rfl, World.ownsRow_nil _ _ _ _, World.ownsRow_nil _ _ _ _, hb⟩
    | some E =>
      obtain ⟨hE, _⟩ := findS_some hf
      have ht := hO.tree E hE
      refine (Get_own b S p W h.2 E hf hs hT ht.2 (by rw [firstW_ref]; exact ht.1.right) (hO.closed.refs E hE) (hO.rs E hE)).mono ?_
      rintro e w' ⟨vt, vr, rfl, h1, h2, hb⟩
      obtain ⟨ta, tc, rfl, _⟩ := own_sl h1
      obtain ⟨ra, rc, rfl, _⟩ := own_sl h2
      exact ⟨ta, tc, ra, rc, rfl, h1, h2, hb⟩)
  generalize errG S p = er at cG ⊢
  generalize sumR S p = sm at cG ⊢
  generalize nodesR S p = ns at cG ⊢
  generalize refsR S p = rs at cG ⊢
  have HB0 := hide hb0
  have K0 := hide k0
  clear h hO hT hb0 k0
  go_enter Tryz.func15, Tryz.ntmps15
  go_wp2_with fail
  refine cE.out.mono ?_
  rintro e w1 ⟨rfl, rfl⟩
  go_wp2_with fail
  refine cG.out.mono ?_
  rintro e w2 ⟨ta, tc, ra, rc, rfl, h1, h2, hb⟩
  have k2 := (hb.block w.heap.size (lt_of_block K0.out)).trans K0.out
  have k20 : w2.cell? ⟨w.heap.size, 0, none⟩ = some (.slice none 0 0) := by simp [World.cell?, k2]
  have k21 : w2.cell? ⟨w.heap.size, 1, none⟩ = some (.slice none 0 0) := by simp [World.cell?, k2]
  have k22 : w2.cell? ⟨w.heap.size, 2, none⟩ = some (.string ⟨#[]⟩) := by simp [World.cell?, k2]
  have f20 : w2.frozen? ⟨w.heap.size, 0, none⟩ = false := by simp [World.frozen?, k2]
  have f21 : w2.frozen? ⟨w.heap.size, 1, none⟩ = false := by simp [World.frozen?, k2]
  have f22 : w2.frozen? ⟨w.heap.size, 2, none⟩ = false := by simp [World.frozen?, k2]
  have HR := hide (And.intro h1 (And.intro h2 hb))
  have K2 := hide k2
  clear h1 h2 hb cG k2 hW
  go_wp2
  refine bodyPost_ret (results_cell_two rfl _ _ w.heap.size 46 _ (0, 0) _ rfl (row3 K2.out) Tryz.underlying46 rfl (by kernel_rfl)) rfl ?_
  obtain ⟨h1, h2, hb⟩ := HR.out
  have kt : ∀ t : TypeId, t ≠ 46 → KeepT t w2 (((w2.setCell ⟨w.heap.size, 0, none⟩ (.slice ta ns.length tc)).setCell ⟨w.heap.size, 1, none⟩ (.slice ra rs.length rc)).setCell ⟨w.heap.size, 2, none⟩ (.string sm)) := fun t ht => ((set_keepT K2.out ht).trans (set_keepT (set_blk K2.out 0 _) ht)).trans (set_keepT (set_blk (set_blk K2.out 0 _) 1 _) ht)
  exact ⟨_, _, _, _, rfl, own_keepT (own_base h1 HB0.out.size) (kt 43 (by decide)), own_keepT (own_base h2 HB0.out.size) (kt 9 (by decide)), (((HB0.out.trans (hb.mono HB0.out.size)).setCell (Nat.le_refl _) _).setCell (Nat.le_refl _) _).setCell (Nat.le_refl _) _⟩
end Go.Proofs.YticfcjmlphhpgabGreatDoor
