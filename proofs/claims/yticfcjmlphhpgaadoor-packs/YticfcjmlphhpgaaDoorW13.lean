/-
  WALKS, 13: the document's answer: a tree's bytes.
-/
import Derived.Test.YticfcjmlphhpgaaDoorW8
import Derived.Test.YticfcjmlphhpgaaDoorM10
import Derived.Deep.DeepCutAuto
namespace Go.Proofs.YticfcjmlphhpgaaDoor
open Go.RowKit

def strB (l : List UInt8) : ByteArray := ⟨l.toArray⟩
theorem strB_data (l : List UInt8) : (strB l).data.toList = l := by simp [strB]
/-- strs at strings that were just laid in a new block. -/
theorem strs_new (ss : List ByteArray) (W : World) (hn : (bytesOf ss).length ≤ 1000000000000) (hss : ss.length ≤ 1000) (cs : Array Value) (hcs : cs = (ss.map Value.string).toArray) (m : Nat) (hm : m = ss.length) (q : Nat) (hq : q = W.heap.size) :
    Calls Tryd.prog 38 #[.slice (some ⟨q, 0, none⟩) m m] (W.alloc (.cells cs 9)) fun e w' => e = .returned (.string (encsB ss)) ∧ Below W.heap.size W w' := by
  subst hcs hm hq
  refine (strs_any W.heap.size ss _ (block_new W _) hn hss).mono ?_
  rintro e w' ⟨rfl, h⟩
  exact ⟨rfl, ((Below.refl _ _).alloc (Nat.le_refl _) _).trans (h.mono (by simp))⟩

/-- What a call of the document's pack does, at a node with at most f behind it. -/
def PRef (f : Nat) : Prop := ∀ (b off cap : Nat) (x : Nd) (F : List Nd) (w : World), b < w.heap.size → NodesAt w b off (x :: F) → (x :: F).length ≤ cap → cap ≤ maxLen → Small (x :: F) → F.length ≤ f → bulk (x :: F) ≤ 1000000000 → Kinds (x :: F) →
  Calls Tryd.prog 22 #[.slice (some ⟨b, off, none⟩) (F.length + 1) cap] w fun e w' => e = .returned (.string (strB (refN (refE f) x F))) ∧ Below w.heap.size w w'

set_option maxRecDepth 20000 in
set_option maxHeartbeats 1000000 in
theorem ref_file (f : Nat) (b off cap : Nat) (path data : ByteArray) (F : List Nd) (w : World) (_hbl : b < w.heap.size) (hN : NodesAt w b off (⟨path, 1, data⟩ :: F)) (hsm : Small (⟨path, 1, data⟩ :: F)) :
    Calls Tryd.prog 22 #[.slice (some ⟨b, off, none⟩) (F.length + 1) cap] w fun e w' => e = .returned (.string (strB (refN (refE f) ⟨path, 1, data⟩ F))) ∧ Below w.heap.size w w' := by
  obtain ⟨c0, c1, c2⟩ := hN 0 (by simp)
  simp only [Nat.zero_mul, Nat.add_zero, List.getElem_cons_zero] at c0 c1 c2
  have hl := hsm.1
  rw [List.length_cons] at hl
  have hsd := (hsm.2 _ (List.mem_cons_self)).2
  simp only at hsd
  have hz : (0 : Int) < (F.length : Int) + 1 := by omega
  obtain ⟨X, hX⟩ : ∃ X, strB (refN (refE f) ⟨path, 1, data⟩ F) = X := ⟨_, rfl⟩
  rw [hX]
  have hXd : X.data.toList = bytesOf [wOpen, wType] ++ bytesOf [wFile, wData, data] ++ bytesOf [wClose] := by rw [← hX, strB_data]; simp [refN]
  have HX := hide hXd
  have hl1 : (bytesOf [wOpen, wType]).length ≤ 100 := by have h1 := bytesOf_cons wOpen [wType]; have h2 := bytesOf_cons wType []; have a : wOpen.size = 1 := rfl; have b : wType.size = 4 := rfl; rw [bytesOf_nil] at h2; omega
  have hl2 : (bytesOf [wFile, wData, data]).length ≤ 200 + data.size := by have h1 := bytesOf_cons wFile [wData, data]; have h2 := data_le data; have a : wFile.size = 4 := rfl; omega
  have hl3 := close_le
  have z1 := size_of_dataV (encsB_data [wOpen, wType])
  have z2 := size_of_dataV (encsB_data [wFile, wData, data])
  have z3 : (encB wClose).size ≤ 20 := by rw [size_of_dataV (encB_data wClose)]; exact close_le
  have hs1 : (encsB [wOpen, wType]).size ≤ 100 := by omega
  have hs2 : (encsB [wFile, wData, data]).size ≤ 2000000 := by omega
  have hbx : ∀ W, Below (w.heap.size + 1) (w.alloc (.cells #[.string path, .int .i64 1, .string data] 45)) W → W.heap[w.heap.size]? = some (.cells #[.string path, .int .i64 1, .string data] 45) := fun W h => by
    rw [h.block _ (by omega)]; exact block_new w _
  have HBX := hide hbx
  clear hX hXd hsm hN hbx z1 z2
  go_enter Tryd.func22, Tryd.ntmps22
  go_wp2_with fail
  refine (strs_new [wOpen, wType] (w.alloc (.cells #[.string path, .int .i64 1, .string data] 45)) (by omega) (by simp) _ rfl _ rfl _ (by simp)).mono ?_
  rintro e w2 ⟨rfl, hb2⟩
  have hb2' : Below (w.heap.size + 1) (w.alloc (.cells #[.string path, .int .i64 1, .string data] 45)) w2 := by simpa using hb2
  have hsz2 : w.heap.size + 1 ≤ w2.heap.size := by have := hb2'.size; simpa using this
  obtain ⟨x0, x1, x2⟩ := box_cells (HBX.out w2 hb2')
  generalize hA : encsB [wOpen, wType] = A at hs1
  have HA := hide hA
  clear hA
  go_wp2_with fail
  refine (strs_new [wFile, wData, data] w2 (by omega) (by simp) _ rfl _ rfl _ rfl).mono ?_
  rintro e w3 ⟨rfl, hb3⟩
  have hsz3 := hb3.size
  generalize hB : encsB [wFile, wData, data] = B at hs2
  have HB := hide hB
  clear hB
  have hAB : A.size + B.size ≤ 9223372036854775807 := by omega
  go_wp2_with fail
  refine (Str_any ⟨#[41]⟩ w3 (by decide)).mono ?_
  rintro e w4 ⟨rfl, hb4⟩
  have hC : (encB ⟨#[41]⟩).data.toList = bytesOf [wClose] := by decide
  have HC := hide hC
  have z3' : (encB ⟨#[41]⟩).size ≤ 20 := z3
  clear hC z3
  generalize encB ⟨#[41]⟩ = C at HC z3'
  have hABC : (A ++ B).size + C.size ≤ 9223372036854775807 := by rw [size_append]; omega
  have hABC2 : A.size + B.size + C.size ≤ 9223372036854775807 := by omega
  have hfin : X = A ++ B ++ C := WideShapes.bytes_inj (by rw [HX.out, data_appendV, data_appendV, ← HA.out, ← HB.out, encsB_data, encsB_data, HC.out])
  subst hfin
  go_wp2
  go_ret
  exact ⟨rfl, (((Below.refl _ _).alloc (Nat.le_refl _) _).trans (hb2'.mono (by omega))).trans ((hb3.mono (by omega)).trans (hb4.mono (by omega)))⟩

set_option maxRecDepth 20000 in
set_option maxHeartbeats 1000000 in
theorem ref_exec (f : Nat) (b off cap : Nat) (path data : ByteArray) (F : List Nd) (w : World) (_hbl : b < w.heap.size) (hN : NodesAt w b off (⟨path, 2, data⟩ :: F)) (hsm : Small (⟨path, 2, data⟩ :: F)) :
    Calls Tryd.prog 22 #[.slice (some ⟨b, off, none⟩) (F.length + 1) cap] w fun e w' => e = .returned (.string (strB (refN (refE f) ⟨path, 2, data⟩ F))) ∧ Below w.heap.size w w' := by
  obtain ⟨c0, c1, c2⟩ := hN 0 (by simp)
  simp only [Nat.zero_mul, Nat.add_zero, List.getElem_cons_zero] at c0 c1 c2
  have hl := hsm.1
  rw [List.length_cons] at hl
  have hsd := (hsm.2 _ (List.mem_cons_self)).2
  simp only at hsd
  have hz : (0 : Int) < (F.length : Int) + 1 := by omega
  obtain ⟨X, hX⟩ : ∃ X, strB (refN (refE f) ⟨path, 2, data⟩ F) = X := ⟨_, rfl⟩
  rw [hX]
  have hXd : X.data.toList = bytesOf [wOpen, wType] ++ bytesOf [wFile, wExec, wNone, wData, data] ++ bytesOf [wClose] := by rw [← hX, strB_data]; simp [refN]
  have HX := hide hXd
  have hl1 : (bytesOf [wOpen, wType]).length ≤ 100 := by have h1 := bytesOf_cons wOpen [wType]; have h2 := bytesOf_cons wType []; have a : wOpen.size = 1 := rfl; have b : wType.size = 4 := rfl; rw [bytesOf_nil] at h2; omega
  have hl2 : (bytesOf [wFile, wExec, wNone, wData, data]).length ≤ 200 + data.size := by have h1 := bytesOf_cons wFile [wExec, wNone, wData, data]; have h3 := bytesOf_cons wExec [wNone, wData, data]; have h4 := bytesOf_cons wNone [wData, data]; have h2 := data_le data; have a : wFile.size = 4 := rfl; have b : wExec.size = 4 := rfl; have c : wNone.size = 0 := rfl; omega
  have hl3 := close_le
  have z1 := size_of_dataV (encsB_data [wOpen, wType])
  have z2 := size_of_dataV (encsB_data [wFile, wExec, wNone, wData, data])
  have z3 : (encB wClose).size ≤ 20 := by rw [size_of_dataV (encB_data wClose)]; exact close_le
  have hs1 : (encsB [wOpen, wType]).size ≤ 100 := by omega
  have hs2 : (encsB [wFile, wExec, wNone, wData, data]).size ≤ 2000000 := by omega
  have hbx : ∀ W, Below (w.heap.size + 1) (w.alloc (.cells #[.string path, .int .i64 2, .string data] 45)) W → W.heap[w.heap.size]? = some (.cells #[.string path, .int .i64 2, .string data] 45) := fun W h => by
    rw [h.block _ (by omega)]; exact block_new w _
  have HBX := hide hbx
  clear hX hXd hsm hN hbx z1 z2
  go_enter Tryd.func22, Tryd.ntmps22
  go_wp2_with fail
  refine (strs_new [wOpen, wType] (w.alloc (.cells #[.string path, .int .i64 2, .string data] 45)) (by omega) (by simp) _ rfl _ rfl _ (by simp)).mono ?_
  rintro e w2 ⟨rfl, hb2⟩
  have hb2' : Below (w.heap.size + 1) (w.alloc (.cells #[.string path, .int .i64 2, .string data] 45)) w2 := by simpa using hb2
  have hsz2 : w.heap.size + 1 ≤ w2.heap.size := by have := hb2'.size; simpa using this
  obtain ⟨x0, x1, x2⟩ := box_cells (HBX.out w2 hb2')
  generalize hA : encsB [wOpen, wType] = A at hs1
  have HA := hide hA
  clear hA
  go_wp2_with fail
  refine (strs_new [wFile, wExec, wNone, wData, data] w2 (by omega) (by simp) _ rfl _ rfl _ rfl).mono ?_
  rintro e w3 ⟨rfl, hb3⟩
  have hsz3 := hb3.size
  generalize hB : encsB [wFile, wExec, wNone, wData, data] = B at hs2
  have HB := hide hB
  clear hB
  have hAB : A.size + B.size ≤ 9223372036854775807 := by omega
  go_wp2_with fail
  refine (Str_any ⟨#[41]⟩ w3 (by decide)).mono ?_
  rintro e w4 ⟨rfl, hb4⟩
  have hC : (encB ⟨#[41]⟩).data.toList = bytesOf [wClose] := by decide
  have HC := hide hC
  have z3' : (encB ⟨#[41]⟩).size ≤ 20 := z3
  clear hC z3
  generalize encB ⟨#[41]⟩ = C at HC z3'
  have hABC : (A ++ B).size + C.size ≤ 9223372036854775807 := by rw [size_append]; omega
  have hABC2 : A.size + B.size + C.size ≤ 9223372036854775807 := by omega
  have hfin : X = A ++ B ++ C := WideShapes.bytes_inj (by rw [HX.out, data_appendV, data_appendV, ← HA.out, ← HB.out, encsB_data, encsB_data, HC.out])
  subst hfin
  go_wp2
  go_ret
  exact ⟨rfl, (((Below.refl _ _).alloc (Nat.le_refl _) _).trans (hb2'.mono (by omega))).trans ((hb3.mono (by omega)).trans (hb4.mono (by omega)))⟩

set_option maxRecDepth 20000 in
set_option maxHeartbeats 1000000 in
theorem ref_link (f : Nat) (b off cap : Nat) (path data : ByteArray) (F : List Nd) (w : World) (_hbl : b < w.heap.size) (hN : NodesAt w b off (⟨path, 3, data⟩ :: F)) (hsm : Small (⟨path, 3, data⟩ :: F)) :
    Calls Tryd.prog 22 #[.slice (some ⟨b, off, none⟩) (F.length + 1) cap] w fun e w' => e = .returned (.string (strB (refN (refE f) ⟨path, 3, data⟩ F))) ∧ Below w.heap.size w w' := by
  obtain ⟨c0, c1, c2⟩ := hN 0 (by simp)
  simp only [Nat.zero_mul, Nat.add_zero, List.getElem_cons_zero] at c0 c1 c2
  have hl := hsm.1
  rw [List.length_cons] at hl
  have hsd := (hsm.2 _ (List.mem_cons_self)).2
  simp only at hsd
  have hz : (0 : Int) < (F.length : Int) + 1 := by omega
  obtain ⟨X, hX⟩ : ∃ X, strB (refN (refE f) ⟨path, 3, data⟩ F) = X := ⟨_, rfl⟩
  rw [hX]
  have hXd : X.data.toList = bytesOf [wOpen, wType] ++ bytesOf [wLink, wTo, data] ++ bytesOf [wClose] := by rw [← hX, strB_data]; simp [refN]
  have HX := hide hXd
  have hl1 : (bytesOf [wOpen, wType]).length ≤ 100 := by have h1 := bytesOf_cons wOpen [wType]; have h2 := bytesOf_cons wType []; have a : wOpen.size = 1 := rfl; have b : wType.size = 4 := rfl; rw [bytesOf_nil] at h2; omega
  have hl2 : (bytesOf [wLink, wTo, data]).length ≤ 200 + data.size := by have h1 := bytesOf_cons wLink [wTo, data]; have h2 := to_le data; have a : wLink.size = 4 := rfl; omega
  have hl3 := close_le
  have z1 := size_of_dataV (encsB_data [wOpen, wType])
  have z2 := size_of_dataV (encsB_data [wLink, wTo, data])
  have z3 : (encB wClose).size ≤ 20 := by rw [size_of_dataV (encB_data wClose)]; exact close_le
  have hs1 : (encsB [wOpen, wType]).size ≤ 100 := by omega
  have hs2 : (encsB [wLink, wTo, data]).size ≤ 2000000 := by omega
  have hbx : ∀ W, Below (w.heap.size + 1) (w.alloc (.cells #[.string path, .int .i64 3, .string data] 45)) W → W.heap[w.heap.size]? = some (.cells #[.string path, .int .i64 3, .string data] 45) := fun W h => by
    rw [h.block _ (by omega)]; exact block_new w _
  have HBX := hide hbx
  clear hX hXd hsm hN hbx z1 z2
  go_enter Tryd.func22, Tryd.ntmps22
  go_wp2_with fail
  refine (strs_new [wOpen, wType] (w.alloc (.cells #[.string path, .int .i64 3, .string data] 45)) (by omega) (by simp) _ rfl _ rfl _ (by simp)).mono ?_
  rintro e w2 ⟨rfl, hb2⟩
  have hb2' : Below (w.heap.size + 1) (w.alloc (.cells #[.string path, .int .i64 3, .string data] 45)) w2 := by simpa using hb2
  have hsz2 : w.heap.size + 1 ≤ w2.heap.size := by have := hb2'.size; simpa using this
  obtain ⟨x0, x1, x2⟩ := box_cells (HBX.out w2 hb2')
  generalize hA : encsB [wOpen, wType] = A at hs1
  have HA := hide hA
  clear hA
  go_wp2_with fail
  refine (strs_new [wLink, wTo, data] w2 (by omega) (by simp) _ rfl _ rfl _ rfl).mono ?_
  rintro e w3 ⟨rfl, hb3⟩
  have hsz3 := hb3.size
  generalize hB : encsB [wLink, wTo, data] = B at hs2
  have HB := hide hB
  clear hB
  have hAB : A.size + B.size ≤ 9223372036854775807 := by omega
  go_wp2_with fail
  refine (Str_any ⟨#[41]⟩ w3 (by decide)).mono ?_
  rintro e w4 ⟨rfl, hb4⟩
  have hC : (encB ⟨#[41]⟩).data.toList = bytesOf [wClose] := by decide
  have HC := hide hC
  have z3' : (encB ⟨#[41]⟩).size ≤ 20 := z3
  clear hC z3
  generalize encB ⟨#[41]⟩ = C at HC z3'
  have hABC : (A ++ B).size + C.size ≤ 9223372036854775807 := by rw [size_append]; omega
  have hABC2 : A.size + B.size + C.size ≤ 9223372036854775807 := by omega
  have hfin : X = A ++ B ++ C := WideShapes.bytes_inj (by rw [HX.out, data_appendV, data_appendV, ← HA.out, ← HB.out, encsB_data, encsB_data, HC.out])
  subst hfin
  go_wp2
  go_ret
  exact ⟨rfl, (((Below.refl _ _).alloc (Nat.le_refl _) _).trans (hb2'.mono (by omega))).trans ((hb3.mono (by omega)).trans (hb4.mono (by omega)))⟩

end Go.Proofs.YticfcjmlphhpgaaDoor
