import Derived.Test.YticfcjmlphhpgaaGreatDoorA04
import Derived.Test.YticfcjmlphhpgaaGreatDoorA16
/-
  STORES: the program's, in memory; an entry is put.
-/
namespace Go.Proofs.YticfcjmlphhpgaaGreatDoor
open Go.RowKit Go.Maps

/-- An entry of a store. -/
structure Ent where
  path : ByteArray
  nodes : List Nd
  refs : List ByteArray
def packB (ns : List Nd) : ByteArray := ⟨(packBytes ns).toArray⟩
def findS (S : List Ent) (p : ByteArray) : Option Ent := S.find? fun e => e.path.data.toList == p.data.toList
def insS (x : Ent) : List Ent → List Ent
  | [] => [x]
  | y :: r => if bytesBefore x.path.data.toList y.path.data.toList then x :: y :: r else y :: insS x r
def putS (S : List Ent) (x : Ent) : Int × List Ent := match findS S x.path with
  | some e => (if (decide (packB e.nodes = packB x.nodes) && eqL e.refs x.refs) = true then 0 else 12, S)
  | none => if 10 ≤ S.length then (14, S) else (0, insS x S)
/-- An entry as it lies in the program's map. -/
def EntAt (w : World) (x : Bs × Value) (e : Ent) : Prop := x.1 = e.path.data.toList ∧ ∃ a n c, x.2 = .agg #[.string (packB e.nodes), .slice a n c] ∧ SliceS w (.slice a n c) e.refs
def EntsAt (w : World) : List (Bs × Value) → List Ent → Prop
  | [], [] => True
  | x :: L, e :: S => EntAt w x e ∧ EntsAt w L S
  | _, _ => False
theorem EntsAt.ents {w : World} : ∀ {L : List (Bs × Value)} {S : List Ent}, EntsAt w L S → Ents L
  | [], [], _ => fun _ h => by cases h
  | x :: L, e :: S, h => fun y hy => by
    rcases List.mem_cons.1 hy with rfl | hy
    · obtain ⟨_, a, n, c, hv, _⟩ := h.1
      exact ⟨_, a, n, c, hv⟩
    · exact h.2.ents y hy
  | [], _ :: _, h => h.elim
  | _ :: _, [], h => h.elim
theorem EntsAt.length {w : World} : ∀ {L : List (Bs × Value)} {S : List Ent}, EntsAt w L S → L.length = S.length
  | [], [], _ => rfl
  | _ :: _, _ :: _, h => by rw [List.length_cons, List.length_cons, h.2.length]
  | [], _ :: _, h => h.elim
  | _ :: _, [], h => h.elim
theorem EntsAt.find {w : World} : ∀ {L : List (Bs × Value)} {S : List Ent}, EntsAt w L S → ∀ p : ByteArray, match findS S p with
    | some e => ∃ a n c, findK L p.data.toList = some (.agg #[.string (packB e.nodes), .slice a n c]) ∧ SliceS w (.slice a n c) e.refs
    | none => findK L p.data.toList = none
  | [], [], _, _ => rfl
  | x :: L, e :: S, h, p => by
    obtain ⟨hk, a, n, c, hv, hs⟩ := h.1
    have ih := h.2.find p
    unfold findS findK at *
    simp only [List.find?_cons, hk]
    cases hb : e.path.data.toList == p.data.toList with
    | true => exact ⟨a, n, c, by simp [hv], hs⟩
    | false => exact ih
  | [], _ :: _, h, _ => h.elim
  | _ :: _, [], h, _ => h.elim
theorem EntsAt.mono {w w' : World} (hw : ∀ v ss, SliceS w v ss → SliceS w' v ss) : ∀ {L : List (Bs × Value)} {S : List Ent}, EntsAt w L S → EntsAt w' L S
  | [], [], _ => trivial
  | _ :: _, _ :: _, h => ⟨⟨h.1.1, by obtain ⟨_, a, n, c, hv, hs⟩ := h.1; exact ⟨a, n, c, hv, hw _ _ hs⟩⟩, h.2.mono hw⟩
  | [], _ :: _, h => h.elim
  | _ :: _, [], h => h.elim
theorem EntsAt.ins {w : World} {x : Bs × Value} {e : Ent} (hx : EntAt w x e) : ∀ {L : List (Bs × Value)} {S : List Ent}, EntsAt w L S → EntsAt w (insK x L) (insS e S)
  | [], [], _ => ⟨hx, trivial⟩
  | y :: L, f :: S, h => by
    have e1 : insK x (y :: L) = if bytesBefore x.1 y.1 = true then x :: y :: L else y :: insK x L := rfl
    have e2 : insS e (f :: S) = if bytesBefore e.path.data.toList f.path.data.toList = true then e :: f :: S else f :: insS e S := rfl
    rw [e1, e2, hx.1, h.1.1]
    by_cases hb : bytesBefore e.path.data.toList f.path.data.toList = true
    · rw [if_pos hb, if_pos hb]; exact ⟨hx, h⟩
    · rw [if_neg hb, if_neg hb]; exact ⟨h.1, EntsAt.ins hx h.2⟩
  | [], _ :: _, h => h.elim
  | _ :: _, [], h => h.elim
/-- Lists of texts lie on, where all lies on but a map. -/
theorem SliceS.kb {w w' : World} {b : Nat} {v : Value} {ss : List ByteArray} {L : List (Bs × Value)} (h : SliceS w v ss) (hm : MapAt w b L) (hk : KBz b w w') : SliceS w' v ss := by
  obtain ⟨a, cap, rfl, h1, h3⟩ := h
  refine ⟨a, cap, rfl, h1, fun hn => ?_⟩
  obtain ⟨g, off, rfl, h4, h5⟩ := h3 hn
  obtain ⟨es, clock, hb, _⟩ := hm
  have hne : g ≠ b := fun e => by
    have := h5 0 hn
    rw [e] at this
    simp [World.cell?, hb] at this
  refine ⟨g, off, rfl, Nat.lt_of_lt_of_le h4 hk.size, fun j hj => ?_⟩
  rw [← h5 j hj]
  exact World.cell?_of_block (w := w) (hk.blk g h4 hne)
/-- A store of the program's: its map. -/
def PSt (w : World) (b : Nat) (S : List Ent) : Prop := ∃ L, MapAt w b L ∧ EntsAt w L S
theorem PSt.below {w w' : World} {b : Nat} {S : List Ent} (h : PSt w b S) (hb : Below w.heap.size w w') : PSt w' b S := by
  obtain ⟨L, h1, h2⟩ := h
  exact ⟨L, h1.blk (hb.block b (World.ownsMap.lt h1)), h2.mono (fun v ss hs => hs.below hb)⟩
theorem PSt.lt {w : World} {b : Nat} {S : List Ent} (h : PSt w b S) : b < w.heap.size := by
  obtain ⟨L, h1, _⟩ := h
  exact World.ownsMap.lt h1
/-- What a call leaves that may write into one map alone. -/
def Wrote (b : Nat) (w w' : World) : Prop := KBz b w w' ∧ ∀ B, B ≤ b → Below B w w'
theorem Wrote.of {b : Nat} {w w' : World} (hb : b < w.heap.size) (h : Below w.heap.size w w') : Wrote b w w' := ⟨KBz.new b h, fun B hB => h.mono (by omega)⟩
theorem Wrote.trans {b : Nat} {w w1 w2 : World} (h : Wrote b w w1) (k : Wrote b w1 w2) : Wrote b w w2 := ⟨h.1.trans k.1, fun B hB => (h.2 B hB).trans (k.2 B hB)⟩
end Go.Proofs.YticfcjmlphhpgaaGreatDoor
