/-
  PLAIN MATHEMATICS, 5: a tree's bytes, as the program goes.
-/
import Derived.Test.YtpbjdfobbnpjfaaDoorM4
namespace Go.Proofs.YtpbjdfobbnpjfaaDoor
open Go.RowKit

def wOpen : ByteArray := ⟨#[40]⟩
def wClose : ByteArray := ⟨#[41]⟩
def wType : ByteArray := ⟨#[116, 121, 112, 101]⟩
def wExec : ByteArray := ⟨#[101, 120, 101, 99]⟩
def wNone : ByteArray := ⟨#[]⟩
def wData : ByteArray := ⟨#[100, 97, 116, 97]⟩
def wTo : ByteArray := ⟨#[116, 111]⟩
def wEntry : ByteArray := ⟨#[101, 110, 116, 114, 121]⟩
def wName : ByteArray := ⟨#[110, 97, 109, 101]⟩
def wNode : ByteArray := ⟨#[110, 111, 100, 101]⟩
def wNar : ByteArray := ⟨#[110, 97, 114, 45, 49]⟩
def bytesOf (ss : List ByteArray) : List UInt8 := encs (ss.map (·.data.toList))
/-- Between the head of a node and its close. -/
def bodyF (E : List Nd → ByteArray → List UInt8 × List Nd) (n : Nd) (r : List Nd) : List UInt8 × List Nd :=
  if n.kind = 4 then E r (prefixIn n.path)
  else (if n.kind = 2 then bytesOf [wExec, wNone] ++ bytesOf [wData, n.data] else if n.kind = 1 then bytesOf [wData, n.data] else if n.kind = 3 then bytesOf [wTo, n.data] else [], r)
def nodeF (E : List Nd → ByteArray → List UInt8 × List Nd) (n : Nd) (r : List Nd) : List UInt8 × List Nd :=
  (bytesOf [wOpen, wType, wordOf n.kind] ++ (bodyF E n r).1 ++ bytesOf [wClose], (bodyF E n r).2)
def entsF : Nat → List Nd → ByteArray → List UInt8 × List Nd
  | 0, l, _ => ([], l)
  | _ + 1, [], _ => ([], [])
  | f + 1, n :: r, dir =>
    if pre n.path = dir then
      (bytesOf [wEntry, wOpen, wName, nam n.path, wNode] ++ (nodeF (entsF f) n r).1 ++ bytesOf [wClose] ++ (entsF f (nodeF (entsF f) n r).2 dir).1, (entsF f (nodeF (entsF f) n r).2 dir).2)
    else ([], n :: r)

/-- A bound on how many bytes a list of nodes takes. -/
def bulk : List Nd → Nat
  | [] => 0
  | n :: r => 1000 + n.path.size + n.data.size + bulk r
theorem enc_len_le (s : ByteArray) : (enc s.data.toList).length ≤ s.size + 16 := by have := enc_length s.data.toList; simpa using this
theorem wordOf_size (k : Int) : (wordOf k).size ≤ 4 := by
  unfold wordOf; split
  · decide
  · split <;> decide
theorem nam_size5 (s : ByteArray) : (nam s).size ≤ s.size := by simp [nam, ByteArray.size_extract]
theorem bytesOf_cons (s : ByteArray) (r : List ByteArray) : (bytesOf (s :: r)).length ≤ s.size + 16 + (bytesOf r).length := by
  have := enc_len_le s
  simp only [bytesOf, List.map_cons, encs, List.length_append]
  omega
theorem bytesOf_nil : (bytesOf []).length = 0 := rfl
theorem bytesOf_append (a b : List ByteArray) : bytesOf (a ++ b) = bytesOf a ++ bytesOf b := by simp [bytesOf, encs_append]
theorem head_le (k : Int) : (bytesOf [wOpen, wType, wordOf k]).length ≤ 60 := by
  have h1 := bytesOf_cons wOpen [wType, wordOf k]; have h2 := bytesOf_cons wType [wordOf k]; have h3 := bytesOf_cons (wordOf k) []; have h4 := wordOf_size k
  have a : wOpen.size = 1 := rfl
  have b : wType.size = 4 := rfl
  rw [bytesOf_nil] at h3; omega
theorem close_le : (bytesOf [wClose]).length ≤ 20 := by
  have h1 := bytesOf_cons wClose []
  have a : wClose.size = 1 := rfl
  rw [bytesOf_nil] at h1; omega
theorem entry_le (s : ByteArray) : (bytesOf [wEntry, wOpen, wName, nam s, wNode]).length ≤ 120 + s.size := by
  have h1 := bytesOf_cons wEntry [wOpen, wName, nam s, wNode]; have h2 := bytesOf_cons wOpen [wName, nam s, wNode]; have h3 := bytesOf_cons wName [nam s, wNode]; have h4 := bytesOf_cons (nam s) [wNode]; have h5 := bytesOf_cons wNode []; have h6 := nam_size5 s
  have a : wEntry.size = 5 := rfl
  have b : wOpen.size = 1 := rfl
  have c : wName.size = 4 := rfl
  have d : wNode.size = 4 := rfl
  rw [bytesOf_nil] at h5; omega
theorem data_le (s : ByteArray) : (bytesOf [wData, s]).length ≤ 60 + s.size := by
  have h1 := bytesOf_cons wData [s]; have h2 := bytesOf_cons s []
  have a : wData.size = 4 := rfl
  rw [bytesOf_nil] at h2; omega
theorem to_le (s : ByteArray) : (bytesOf [wTo, s]).length ≤ 60 + s.size := by
  have h1 := bytesOf_cons wTo [s]; have h2 := bytesOf_cons s []
  have a : wTo.size = 2 := rfl
  rw [bytesOf_nil] at h2; omega
theorem exec_le : (bytesOf [wExec, wNone]).length ≤ 60 := by
  have h1 := bytesOf_cons wExec [wNone]; have h2 := bytesOf_cons wNone []
  have a : wExec.size = 4 := rfl
  have b : wNone.size = 0 := rfl
  rw [bytesOf_nil] at h2; omega
theorem nodeF_bulk (E : List Nd → ByteArray → List UInt8 × List Nd) (hE : ∀ l d, (E l d).1.length + bulk (E l d).2 ≤ bulk l) (n : Nd) (r : List Nd) : (nodeF E n r).1.length + bulk (nodeF E n r).2 + 200 + n.path.size ≤ bulk (n :: r) := by
  have h1 := head_le n.kind; have h2 := close_le; have h3 := data_le n.data; have h4 := to_le n.data; have h5 := exec_le; have h6 := hE r (prefixIn n.path)
  simp only [nodeF, List.length_append, bulk]
  unfold bodyF
  split
  · omega
  · split
    · simp only [List.length_append]; omega
    · split
      · dsimp only; omega
      · split
        · dsimp only; omega
        · simp only [List.length_nil]; omega
theorem entsF_bulk : ∀ (f : Nat) (l : List Nd) (d : ByteArray), (entsF f l d).1.length + bulk (entsF f l d).2 ≤ bulk l
  | 0, l, d => by simp [entsF]
  | f + 1, [], d => by simp [entsF]
  | f + 1, n :: r, d => by
    have h1 := nodeF_bulk (entsF f) (entsF_bulk f) n r
    have h2 := entsF_bulk f (nodeF (entsF f) n r).2 d
    have h3 := entry_le n.path
    have h4 := close_le
    simp only [entsF]
    split
    · simp only [List.length_append]; omega
    · simp
theorem bulk_len : ∀ l : List Nd, l.length ≤ bulk l
  | [] => Nat.le_refl _
  | n :: r => by have := bulk_len r; rw [bulk, List.length_cons]; omega
/-- What is left is an end of the list. -/
theorem nodeF_suffix (E : List Nd → ByteArray → List UInt8 × List Nd) (hE : ∀ l d, (E l d).2 <:+ l) (n : Nd) (r : List Nd) : (nodeF E n r).2 <:+ r := by
  simp only [nodeF, bodyF]
  split
  · exact hE _ _
  · exact List.suffix_refl _
theorem entsF_suffix : ∀ (f : Nat) (l : List Nd) (d : ByteArray), (entsF f l d).2 <:+ l
  | 0, l, d => List.suffix_refl _
  | f + 1, [], d => List.suffix_refl _
  | f + 1, n :: r, d => by
    simp only [entsF]
    split
    · exact ((entsF_suffix f _ d).trans (nodeF_suffix (entsF f) (entsF_suffix f) n r)).trans (List.suffix_cons n r)
    · exact List.suffix_refl _

/-- A slice of nodes that lie in an old block. -/
def SliceB (B : Nat) (w : World) (v : Value) (ns : List Nd) : Prop :=
  ∃ a cap, v = .slice a ns.length cap ∧ ns.length ≤ cap ∧ cap ≤ maxLen ∧ (0 < ns.length → ∃ b off, a = some ⟨b, off, none⟩ ∧ b < B ∧ NodesAt w b off ns)
theorem SliceB.below {B : Nat} {w w' : World} {v : Value} {ns : List Nd} (h : SliceB B w v ns) (hb : Below B w w') : SliceB B w' v ns := by
  obtain ⟨a, cap, rfl, h1, h2, h4⟩ := h
  refine ⟨a, cap, rfl, h1, h2, fun hn => ?_⟩
  obtain ⟨b, off, rfl, hlt, hN⟩ := h4 hn
  exact ⟨b, off, rfl, hlt, hN.below hb hlt⟩
theorem SliceN.toB {w : World} {v : Value} {ns : List Nd} (h : SliceN w v ns) : SliceB w.heap.size w v ns := by
  obtain ⟨a, cap, rfl, h1, h2, _, h4⟩ := h
  exact ⟨a, cap, rfl, h1, h2, h4⟩
theorem Small.suffix {a b : List Nd} (h : Small b) (hs : a <:+ b) : Small a := ⟨Nat.le_trans hs.length_le h.1, fun n hn => h.2 n (hs.subset hn)⟩
end Go.Proofs.YtpbjdfobbnpjfaaDoor
