import Derived.Test.YticcbaapbnfmmaaDoorP01
import Derived.Test.YticcbaapbnfmmaaDoorP02
import Derived.BigRegion
namespace Go.Proofs.YticcbaapbnfmmaaDoor
open Go.RowKit

structure Nd where
  path : ByteArray
  kind : Int
  data : ByteArray

/-- Nodes in memory, from a place on. -/
def NodesAt (w : World) (b off : Nat) (ns : List Nd) : Prop :=
  ∀ j (h : j < ns.length), w.cell? ⟨b, off + j * 3, none⟩ = some (.string ns[j].path) ∧ w.cell? ⟨b, off + j * 3 + 1, none⟩ = some (.int .i64 ns[j].kind) ∧ w.cell? ⟨b, off + j * 3 + 2, none⟩ = some (.string ns[j].data)
/-- A slice of nodes. -/
def SliceN (w : World) (v : Value) (ns : List Nd) : Prop :=
  ∃ a cap, v = .slice a ns.length cap ∧ ns.length ≤ cap ∧ cap ≤ maxLen ∧ (a = none → cap = 0) ∧ (0 < ns.length → ∃ b off, a = some ⟨b, off, none⟩ ∧ b < w.heap.size ∧ NodesAt w b off ns)
/-- Lists within what is spoken of. -/
def Small (ns : List Nd) : Prop := ns.length ≤ 1000000 ∧ ∀ n ∈ ns, n.path.size ≤ 1000000 ∧ n.data.size ≤ 1000000
theorem NodesAt.below {w w' : World} {b off B : Nat} {ns : List Nd} (h : NodesAt w b off ns) (hb : Below B w w') (hB : b < B) : NodesAt w' b off ns := fun j hj => by
  rw [hb.cell (p := ⟨b, _, none⟩) hB, hb.cell (p := ⟨b, _, none⟩) hB, hb.cell (p := ⟨b, _, none⟩) hB]
  exact h j hj
theorem NodesAt.tail {w : World} {b off : Nat} {n : Nd} {r : List Nd} (h : NodesAt w b off (n :: r)) : NodesAt w b (off + 3) r := fun j hj => by
  have := h (j + 1) (by simpa using hj)
  rw [show off + (j + 1) * 3 = off + 3 + j * 3 by omega] at this
  exact this
theorem SliceN.below {w w' : World} {v : Value} {ns : List Nd} (h : SliceN w v ns) (hb : Below w.heap.size w w') : SliceN w' v ns := by
  obtain ⟨a, cap, rfl, h1, h2, h3, h4⟩ := h
  refine ⟨a, cap, rfl, h1, h2, h3, fun hn => ?_⟩
  obtain ⟨b, off, rfl, hlt, hN⟩ := h4 hn
  exact ⟨b, off, rfl, by have := hb.size; omega, hN.below hb hlt⟩
theorem Small.tail {n : Nd} {r : List Nd} (h : Small (n :: r)) : Small r := ⟨by have := h.1; simp at this; omega, fun x hx => h.2 x (List.mem_cons_of_mem _ hx)⟩
end Go.Proofs.YticcbaapbnfmmaaDoor
namespace Go.Proofs.YticcbaapbnfmmaaDoor
open Go.RowKit

def fwGo : Nat → List (ByteArray × ByteArray) → List Nd → Option Nat
  | _, _, [] => none
  | i, ds, n :: r =>
    if i < 30 ∧ fits n.kind n.data.data.toList = true then
      (if i = 0 then (if n.path.toList.isEmpty = true then fwGo 1 (enterL ds n.path n.kind) r else some 0)
       else match placeRest ds n.path n.kind with
        | some ds' => fwGo (i + 1) ds' r
        | none => some i)
    else some i
def firstW (ns : List Nd) : Option Nat := if ns = [] then some 0 else fwGo 0 [] ns
theorem fwGo_step (ns : List Nd) (k : Nat) (h : k < ns.length) (ds : List (ByteArray × ByteArray)) : fwGo k ds (ns.drop k) =
    if k < 30 ∧ fits ns[k].kind ns[k].data.data.toList = true then
      (if k = 0 then (if ns[k].path.toList.isEmpty = true then fwGo 1 (enterL ds ns[k].path ns[k].kind) (ns.drop (k + 1)) else some 0)
       else match placeRest ds ns[k].path ns[k].kind with
        | some ds' => fwGo (k + 1) ds' (ns.drop (k + 1))
        | none => some k)
    else some k := by
  rw [List.drop_eq_getElem_cons h]; rfl
theorem enterL_length (ds : List (ByteArray × ByteArray)) (p : ByteArray) (k : Int) : (enterL ds p k).length ≤ ds.length + 1 := by
  unfold enterL; split <;> simp
theorem placeRest_length (ds ds' : List (ByteArray × ByteArray)) (p : ByteArray) (k : Int) (h : placeRest ds p k = some ds') : ds'.length ≤ ds.length + 1 := by
  unfold placeRest at h
  simp only at h
  split at h
  · cases h
  · split at h
    · cases h
    · split at h
      · cases h
      · cases h
        refine Nat.le_trans (enterL_length _ _ _) ?_
        simp
        omega
def wRes (o : Option Nat) : Array Value := match o with | none => #[.int .i64 0, .bool false] | some i => #[.int .i64 (i : Int), .bool true]

set_option maxRecDepth 20000 in
set_option maxHeartbeats 2000000 in
theorem firstWrong_any (v : Value) (ns : List Nd) (w : World) (hT : Lib.Utf8Tabs 0 1 w) (hv : SliceN w v ns) (hsm : Small ns) :
    Calls Tryd.prog 31 #[v] w fun e w' => e = .returned (.tuple (wRes (firstW ns))) ∧ Below w.heap.size w w' := by
  obtain ⟨a, cap, rfl, hcap, hmax, hnone, hcells⟩ := hv
  obtain ⟨R, hR⟩ : ∃ R, firstW ns = R := ⟨_, rfl⟩
  rw [hR]
  by_cases hn : ns.length = 0
  · have hns : ns = [] := List.eq_nil_of_length_eq_zero hn
    subst hns
    have hR0 : R = some 0 := by rw [← hR]; rfl
    subst hR0
    clear hR hcells
    go_enter Tryd.func31, Tryd.ntmps31
    go_wp2
    go_ret2
    exact ⟨rfl, Below.refl _ _⟩
  · obtain ⟨b, off, rfl, hbl, hN⟩ := hcells (by omega)
    have hl1 := hsm.1
    have hne : ((ns.length : Int) == 0) = false := beq_eq_false_iff_ne.2 (by omega)
    have HR : Hid (fwGo 0 [] ns = R) := by show _ = _; rw [← hR]; unfold firstW; rw [if_neg (fun e => hn (by rw [e]; rfl))]
    clear hR hcells hnone
    have HN := hide hN
    have HS := hide hsm
    clear hN hsm
    go_enter Tryd.func31, Tryd.ntmps31
    go_wp2
    go_loopw [4, 5, 6, 7, 13] (fun d _ _ _ i w1 => ∃ (k : Nat) (ds : List (ByteArray × ByteArray)), k ≤ ns.length ∧ i = .int .i64 k ∧ w1.ownsRow w.heap.size 105 2 d ds.length (flat2 ds) ∧ Below w.heap.size w w1 ∧ ds.length ≤ k ∧ Hid (fwGo k ds (ns.drop k) = R)) (fun _ _ _ _ i _ => ns.length - (intOf i).toNat)
    case atStart => exact ⟨0, [], by omega, rfl, World.ownsRow_nil _ _ _ _, Below.refl _ _, by simp, by simpa using HR⟩
    case round =>
      obtain ⟨k, ds, hk, rfl, hown, hbel, hdl, HF⟩ := hrel
      have hsz := hbel.size
      by_cases hlt : k < ns.length
      · obtain ⟨c0, c1, c2⟩ := (HN.out.below hbel hbl) k hlt
        have hsk := HS.out.2 _ (List.getElem_mem hlt)
        have hst := fwGo_step ns k hlt ds
        rw [HF.out] at hst
        generalize hp : ns[k].path = path at c0 hst hsk
        generalize hkd : ns[k].kind = kind at c1 hst
        generalize hdt : ns[k].data = data at c2 hst hsk
        clear hp hkd hdt HF
        have HST := hide hst
        clear hst
        by_cases h30 : k < 30
        · have h30z : (k : Int) < 30 := by omega
          have cF := hide (dataFits_any kind data (wr.alloc (.cells #[.string path, .int .i64 kind, .string data] 45)) (by omega))
          by_cases hfit : fits kind data.data.toList = true
          · rw [hfit] at cF
            have hbx : (wr.alloc (.cells #[.string path, .int .i64 kind, .string data] 45)).heap[wr.heap.size]? = some (.cells #[.string path, .int .i64 kind, .string data] 45) := block_new wr _
            have hb1 : Below w.heap.size w (wr.alloc (.cells #[.string path, .int .i64 kind, .string data] 45)) := hbel.alloc hsz _
            have hown1 := hown.alloc (.cells #[.string path, .int .i64 kind, .string data] 45)
            have hsa : (wr.alloc (.cells #[.string path, .int .i64 kind, .string data] 45)).heap.size = wr.heap.size + 1 := by simp
            by_cases hk0 : k = 0
            · subst hk0
              rw [Nat.zero_mul, Nat.add_zero] at c0 c1 c2
              by_cases hpe : path.toList.isEmpty = true
              · have hRR : R = fwGo 1 (enterL ds path kind) (ns.drop 1) := by have h := HST.out; rw [if_pos ⟨by omega, hfit⟩, if_pos rfl, if_pos hpe] at h; exact h
                have HRR := hide hRR.symm
                clear HST hfit hRR
                go_wp2_with fail
                refine cF.out.mono ?_
                rintro e w2 ⟨rfl, rfl⟩
                clear cF
                go_wp2_with fail
                refine (place_root w.heap.size _ ds path kind data _ hown1 (by omega) (by omega) (by omega)).mono ?_
                rintro e w3 ⟨v3, rfl, hown3, hk3⟩
                go_wp2
                go_roundw
                case rel => exact ⟨1, _, by omega, rfl, hown3, hb1.trans hk3.bel, by have := enterL_length ds path kind; omega, HRR⟩
                case measure => simp [intOf]; omega
              · have hpf : path.toList.isEmpty = false := by simpa using hpe
                have hRR : R = some 0 := by have h := HST.out; rw [if_pos ⟨by omega, hfit⟩, if_pos rfl, if_neg hpe] at h; exact h
                subst hRR
                clear HST hfit hpe
                go_wp2_with fail
                refine cF.out.mono ?_
                rintro e w2 ⟨rfl, rfl⟩
                clear cF
                go_wp2_with fail
                refine (place_root w.heap.size _ ds path kind data _ hown1 (by omega) (by omega) (by omega)).mono ?_
                rintro e w3 ⟨v3, rfl, hown3, hk3⟩
                go_wp2
                go_ret2
                exact ⟨rfl, hb1.trans hk3.bel⟩
            · have hk0b : ((k : Int) == 0) = false := beq_eq_false_iff_ne.2 (by omega)
              have hRR : R = match placeRest ds path kind with | some ds' => fwGo (k + 1) ds' (ns.drop (k + 1)) | none => some k := by
                have h := HST.out; rw [if_pos ⟨h30, hfit⟩, if_neg hk0] at h; exact h
              cases hpl : placeRest ds path kind with
              | none =>
                rw [hpl] at hRR
                simp only at hRR
                subst hRR
                have cP := hide (place_rest w hT _ ds path kind data _ hb1 hown1 (by omega) (by omega))
                rw [hpl] at cP
                simp only [Option.isSome_none] at cP
                clear HST hfit hpl
                go_wp2_with fail
                refine cF.out.mono ?_
                rintro e w2 ⟨rfl, rfl⟩
                clear cF
                go_wp2_with fail
                refine cP.out.mono ?_
                rintro e w3 ⟨v3, rfl, _, hk3⟩
                clear cP
                go_wp2
                go_ret2
                exact ⟨rfl, hb1.trans hk3.bel⟩
              | some ds' =>
                rw [hpl] at hRR
                simp only at hRR
                have hdl' := placeRest_length _ _ _ _ hpl
                have HRR := hide hRR.symm
                have cP := hide (place_rest w hT _ ds path kind data _ hb1 hown1 (by omega) (by omega))
                rw [hpl] at cP
                simp only [Option.isSome_some] at cP
                clear HST hfit hpl hRR
                go_wp2_with fail
                refine cF.out.mono ?_
                rintro e w2 ⟨rfl, rfl⟩
                clear cF
                go_wp2_with fail
                refine cP.out.mono ?_
                rintro e w3 ⟨v3, rfl, hown3, hk3⟩
                clear cP
                have hown4 := hown3 ds' rfl
                clear hown3
                go_wp2
                go_roundw
                case rel => exact ⟨k + 1, ds', by omega, by go_num, hown4, hb1.trans hk3.bel, by omega, HRR⟩
                case measure => simp [intOf]; omega
          · have hff : fits kind data.data.toList = false := by simpa using hfit
            have hRR : R = some k := by have h := HST.out; rw [if_neg (fun h => hfit h.2)] at h; exact h
            rw [hff] at cF
            subst hRR
            clear HST hfit hff
            go_wp2_with fail
            refine cF.out.mono ?_
            rintro e w2 ⟨rfl, rfl⟩
            clear cF
            go_wp2
            go_ret2
            exact ⟨rfl, hbel.alloc hsz _⟩
        · have h30z : ¬ (k : Int) < 30 := by omega
          have h30b : decide ((k : Int) < 30) = false := decide_eq_false h30z
          have hRR : R = some k := by have h := HST.out; rw [if_neg (fun h => h30 h.1)] at h; exact h
          subst hRR
          clear HST
          go_wp2
          go_ret2
          exact ⟨rfl, hbel.alloc hsz _⟩
      · obtain rfl : k = ns.length := by omega
        have hRR : R = none := by have h := HF.out; rw [List.drop_length] at h; exact h.symm
        subst hRR
        clear HF
        go_wp2
        go_ret2
        exact ⟨rfl, hbel⟩
end Go.Proofs.YticcbaapbnfmmaaDoor
namespace Go.Proofs.YticcbaapbnfmmaaDoor
open Go.RowKit

def wOpen : ByteArray := ⟨#[40]⟩
def wClose : ByteArray := ⟨#[41]⟩
def wType : ByteArray := ⟨#[116, 121, 112, 101]⟩
def wExec : ByteArray := ⟨#[101, 120, 101, 99]⟩
def wNone : ByteArray := ⟨#[]⟩
def wData : ByteArray := ⟨#[100, 97, 116, 97]⟩
def wTo : ByteArray := ⟨#[116, 111]⟩
def wEntry : ByteArray := ⟨#[101, 110, 116, 114, 121]⟩
def wName : ByteArray := ⟨#[110, 97, 109, 101]⟩
def wNode : ByteArray := ⟨#[110, 111, 100, 101]⟩
def wNar : ByteArray := ⟨#[110, 97, 114, 45, 49]⟩
def bytesOf (ss : List ByteArray) : List UInt8 := encs (ss.map (·.data.toList))
/-- Between the head of a node and its close. -/
def bodyF (E : List Nd → ByteArray → List UInt8 × List Nd) (n : Nd) (r : List Nd) : List UInt8 × List Nd :=
  if n.kind = 4 then E r (prefixIn n.path)
  else (if n.kind = 2 then bytesOf [wExec, wNone] ++ bytesOf [wData, n.data] else if n.kind = 1 then bytesOf [wData, n.data] else if n.kind = 3 then bytesOf [wTo, n.data] else [], r)
def nodeF (E : List Nd → ByteArray → List UInt8 × List Nd) (n : Nd) (r : List Nd) : List UInt8 × List Nd :=
  (bytesOf [wOpen, wType, wordOf n.kind] ++ (bodyF E n r).1 ++ bytesOf [wClose], (bodyF E n r).2)
def entsF : Nat → List Nd → ByteArray → List UInt8 × List Nd
  | 0, l, _ => ([], l)
  | _ + 1, [], _ => ([], [])
  | f + 1, n :: r, dir =>
    if pre n.path = dir then
      (bytesOf [wEntry, wOpen, wName, nam n.path, wNode] ++ (nodeF (entsF f) n r).1 ++ bytesOf [wClose] ++ (entsF f (nodeF (entsF f) n r).2 dir).1, (entsF f (nodeF (entsF f) n r).2 dir).2)
    else ([], n :: r)

/-- A bound on how many bytes a list of nodes takes. -/
def bulk : List Nd → Nat
  | [] => 0
  | n :: r => 1000 + n.path.size + n.data.size + bulk r
theorem enc_len_le (s : ByteArray) : (enc s.data.toList).length ≤ s.size + 16 := by have := enc_length s.data.toList; simpa using this
theorem wordOf_size (k : Int) : (wordOf k).size ≤ 4 := by
  unfold wordOf; split
  · decide
  · split <;> decide
theorem nam_size5 (s : ByteArray) : (nam s).size ≤ s.size := by simp [nam, ByteArray.size_extract]
theorem bytesOf_cons (s : ByteArray) (r : List ByteArray) : (bytesOf (s :: r)).length ≤ s.size + 16 + (bytesOf r).length := by
  have := enc_len_le s
  simp only [bytesOf, List.map_cons, encs, List.length_append]
  omega
theorem bytesOf_nil : (bytesOf []).length = 0 := rfl
theorem head_le (k : Int) : (bytesOf [wOpen, wType, wordOf k]).length ≤ 60 := by
  have h1 := bytesOf_cons wOpen [wType, wordOf k]; have h2 := bytesOf_cons wType [wordOf k]; have h3 := bytesOf_cons (wordOf k) []; have h4 := wordOf_size k
  have a : wOpen.size = 1 := rfl
  have b : wType.size = 4 := rfl
  rw [bytesOf_nil] at h3; omega
theorem close_le : (bytesOf [wClose]).length ≤ 20 := by
  have h1 := bytesOf_cons wClose []
  have a : wClose.size = 1 := rfl
  rw [bytesOf_nil] at h1; omega
theorem entry_le (s : ByteArray) : (bytesOf [wEntry, wOpen, wName, nam s, wNode]).length ≤ 120 + s.size := by
  have h1 := bytesOf_cons wEntry [wOpen, wName, nam s, wNode]; have h2 := bytesOf_cons wOpen [wName, nam s, wNode]; have h3 := bytesOf_cons wName [nam s, wNode]; have h4 := bytesOf_cons (nam s) [wNode]; have h5 := bytesOf_cons wNode []; have h6 := nam_size5 s
  have a : wEntry.size = 5 := rfl
  have b : wOpen.size = 1 := rfl
  have c : wName.size = 4 := rfl
  have d : wNode.size = 4 := rfl
  rw [bytesOf_nil] at h5; omega
theorem data_le (s : ByteArray) : (bytesOf [wData, s]).length ≤ 60 + s.size := by
  have h1 := bytesOf_cons wData [s]; have h2 := bytesOf_cons s []
  have a : wData.size = 4 := rfl
  rw [bytesOf_nil] at h2; omega
theorem to_le (s : ByteArray) : (bytesOf [wTo, s]).length ≤ 60 + s.size := by
  have h1 := bytesOf_cons wTo [s]; have h2 := bytesOf_cons s []
  have a : wTo.size = 2 := rfl
  rw [bytesOf_nil] at h2; omega
theorem exec_le : (bytesOf [wExec, wNone]).length ≤ 60 := by
  have h1 := bytesOf_cons wExec [wNone]; have h2 := bytesOf_cons wNone []
  have a : wExec.size = 4 := rfl
  have b : wNone.size = 0 := rfl
  rw [bytesOf_nil] at h2; omega
theorem nodeF_bulk (E : List Nd → ByteArray → List UInt8 × List Nd) (hE : ∀ l d, (E l d).1.length + bulk (E l d).2 ≤ bulk l) (n : Nd) (r : List Nd) : (nodeF E n r).1.length + bulk (nodeF E n r).2 + 200 + n.path.size ≤ bulk (n :: r) := by
  have h1 := head_le n.kind; have h2 := close_le; have h3 := data_le n.data; have h4 := to_le n.data; have h5 := exec_le; have h6 := hE r (prefixIn n.path)
  simp only [nodeF, List.length_append, bulk]
  unfold bodyF
  split
  · omega
  · split
    · simp only [List.length_append]; omega
    · split
      · dsimp only; omega
      · split
        · dsimp only; omega
        · simp only [List.length_nil]; omega
theorem entsF_bulk : ∀ (f : Nat) (l : List Nd) (d : ByteArray), (entsF f l d).1.length + bulk (entsF f l d).2 ≤ bulk l
  | 0, l, d => by simp [entsF]
  | f + 1, [], d => by simp [entsF]
  | f + 1, n :: r, d => by
    have h1 := nodeF_bulk (entsF f) (entsF_bulk f) n r
    have h2 := entsF_bulk f (nodeF (entsF f) n r).2 d
    have h3 := entry_le n.path
    have h4 := close_le
    simp only [entsF]
    split
    · simp only [List.length_append]; omega
    · simp
/-- What is left is an end of the list. -/
theorem nodeF_suffix (E : List Nd → ByteArray → List UInt8 × List Nd) (hE : ∀ l d, (E l d).2 <:+ l) (n : Nd) (r : List Nd) : (nodeF E n r).2 <:+ r := by
  simp only [nodeF, bodyF]
  split
  · exact hE _ _
  · exact List.suffix_refl _
theorem entsF_suffix : ∀ (f : Nat) (l : List Nd) (d : ByteArray), (entsF f l d).2 <:+ l
  | 0, l, d => List.suffix_refl _
  | f + 1, [], d => List.suffix_refl _
  | f + 1, n :: r, d => by
    simp only [entsF]
    split
    · exact ((entsF_suffix f _ d).trans (nodeF_suffix (entsF f) (entsF_suffix f) n r)).trans (List.suffix_cons n r)
    · exact List.suffix_refl _

/-- A slice of nodes that lie in an old block. -/
def SliceB (B : Nat) (w : World) (v : Value) (ns : List Nd) : Prop :=
  ∃ a cap, v = .slice a ns.length cap ∧ ns.length ≤ cap ∧ cap ≤ maxLen ∧ (0 < ns.length → ∃ b off, a = some ⟨b, off, none⟩ ∧ b < B ∧ NodesAt w b off ns)
theorem SliceB.below {B : Nat} {w w' : World} {v : Value} {ns : List Nd} (h : SliceB B w v ns) (hb : Below B w w') : SliceB B w' v ns := by
  obtain ⟨a, cap, rfl, h1, h2, h4⟩ := h
  refine ⟨a, cap, rfl, h1, h2, fun hn => ?_⟩
  obtain ⟨b, off, rfl, hlt, hN⟩ := h4 hn
  exact ⟨b, off, rfl, hlt, hN.below hb hlt⟩
theorem SliceN.toB {w : World} {v : Value} {ns : List Nd} (h : SliceN w v ns) : SliceB w.heap.size w v ns := by
  obtain ⟨a, cap, rfl, h1, h2, _, h4⟩ := h
  exact ⟨a, cap, rfl, h1, h2, h4⟩
theorem Small.suffix {a b : List Nd} (h : Small b) (hs : a <:+ b) : Small a := ⟨Nat.le_trans hs.length_le h.1, fun n hn => h.2 n (hs.subset hn)⟩
end Go.Proofs.YticcbaapbnfmmaaDoor
namespace Go.Proofs.YticcbaapbnfmmaaDoor
open Go.RowKit

/-- Each node is of one of the four kinds. -/
def Kinds (l : List Nd) : Prop := ∀ n ∈ l, n.kind = 1 ∨ n.kind = 2 ∨ n.kind = 3 ∨ n.kind = 4
/-- What a call of appendEntries does, at lists of at most f nodes. -/
def PEnts (f : Nat) : Prop := ∀ (base : Nat) (o : Value) (k : Nat) (xs : List Value) (v : Value) (l : List Nd) (dir : ByteArray) (w : World),
  w.ownsRow base 5 1 o k xs → base ≤ w.heap.size → SliceB base w v l → Small l → Kinds l → l.length ≤ f → k + bulk l ≤ 1000000000000 →
  Calls Tryd.prog 41 #[o, v, .string dir] w fun e w' => ∃ o' v', e = .returned (.tuple #[o', v']) ∧
    w'.ownsRow base 5 1 o' (k + (entsF f l dir).1.length) (xs ++ cellsOf (entsF f l dir).1) ∧ SliceB base w' v' (entsF f l dir).2 ∧ K5 base w w'
/-- What a call of appendNode does, at a node with at most f behind it. -/
def PNode (f : Nat) : Prop := ∀ (base : Nat) (o : Value) (k : Nat) (xs : List Value) (v : Value) (n : Nd) (r : List Nd) (w : World),
  w.ownsRow base 5 1 o k xs → base ≤ w.heap.size → SliceB base w v (n :: r) → Small (n :: r) → Kinds (n :: r) → r.length ≤ f → k + bulk (n :: r) ≤ 1000000000000 + 200 + n.path.size →
  Calls Tryd.prog 32 #[o, v] w fun e w' => ∃ o' v', e = .returned (.tuple #[o', v']) ∧
    w'.ownsRow base 5 1 o' (k + (nodeF (entsF f) n r).1.length) (xs ++ cellsOf (nodeF (entsF f) n r).1) ∧ SliceB base w' v' (nodeF (entsF f) n r).2 ∧ K5 base w w'

/-- wire.Append at strings that were just laid in a new block. -/
theorem Append_new (base : Nat) (v : Value) (n : Nat) (xs : List Value) (ss : List ByteArray) (W : World) (hown : W.ownsRow base 5 1 v n xs) (hbase : base ≤ W.heap.size)
    (hn : n + (bytesOf ss).length ≤ 1000000000000) (hss : ss.length ≤ 1000) (cs : Array Value) (hcs : cs = (ss.map Value.string).toArray) (m : Nat) (hm : m = ss.length) :
    Calls Tryd.prog 33 #[v, .slice (some ⟨W.heap.size, 0, none⟩) m m] (W.alloc (.cells cs 9)) fun e w' => ∃ v', e = .returned v' ∧
      w'.ownsRow base 5 1 v' (n + (bytesOf ss).length) (xs ++ cellsOf (bytesOf ss)) ∧ K5 base W w' := by
  subst hcs hm
  refine (Append_any base v n xs W.heap.size ss _ (hown.alloc _) (by simp; omega) (block_new W _) hn hss).mono ?_
  rintro e w' ⟨v', rfl, h1, h2⟩
  exact ⟨v', rfl, h1, ((K5.refl base W).alloc hbase _).trans h2⟩
set_option maxRecDepth 20000 in
set_option maxHeartbeats 1000000 in
theorem node_file (f : Nat) (base : Nat) (o : Value) (k : Nat) (xs : List Value) (v : Value) (path : ByteArray) (data : ByteArray) (r : List Nd) (w : World)
    (hown : w.ownsRow base 5 1 o k xs) (hbase : base ≤ w.heap.size) (hv : SliceB base w v (⟨path, 1, data⟩ :: r)) (hsm : Small (⟨path, 1, data⟩ :: r)) (hbk : k + bulk (⟨path, 1, data⟩ :: r) ≤ 1000000000000 + 200 + path.size) :
    Calls Tryd.prog 32 #[o, v] w fun e w' => ∃ o' v', e = .returned (.tuple #[o', v']) ∧
      w'.ownsRow base 5 1 o' (k + (nodeF (entsF f) ⟨path, 1, data⟩ r).1.length) (xs ++ cellsOf (nodeF (entsF f) ⟨path, 1, data⟩ r).1) ∧ SliceB base w' v' (nodeF (entsF f) ⟨path, 1, data⟩ r).2 ∧ K5 base w w' := by
  have hbb := nodeF_bulk (entsF f) (entsF_bulk f) ⟨path, 1, data⟩ r
  obtain ⟨X, hX⟩ : ∃ X, nodeF (entsF f) ⟨path, 1, data⟩ r = X := ⟨_, rfl⟩
  rw [hX] at hbb ⊢
  simp only at hbb
  have HX1 : Hid (X.1 = bytesOf [wOpen, wType, wordOf 1] ++ (bytesOf [wData, data]) ++ bytesOf [wClose]) := by show _ = _; rw [← hX]; simp [nodeF, bodyF]
  have HX2 : Hid (X.2 = r) := by show _ = _; rw [← hX]; simp [nodeF, bodyF]
  clear hX
  have hhd := head_le 1
  have hcl := close_le
  have hdl := data_le data
  have htl := to_le data
  have hxl := exec_le
  have hbk' : k + (1000 + path.size + data.size + bulk r) ≤ 1000000000000 + 200 + path.size := hbk
  obtain ⟨a, cap, rfl, hcap, hmax, hcells⟩ := hv
  obtain ⟨b, off, rfl, hbB, hN⟩ := hcells (by simp)
  obtain ⟨c0, c1, c2⟩ := hN 0 (by simp)
  simp only [Nat.zero_mul, Nat.add_zero, List.getElem_cons_zero] at c0 c1 c2
  rw [List.length_cons] at hcap ⊢
  have hl := hsm.1
  rw [List.length_cons] at hl
  have hsp := hsm.2 _ (List.mem_cons_self)
  simp only at hsp
  have hrA : Hid (cap = 1 → SliceB base w (.slice (some ⟨b, off, none⟩) r.length 0) r) := fun h => ⟨_, _, rfl, by omega, by omega, fun h2 => by omega⟩
  have hrB : Hid (SliceB base w (.slice (some ⟨b, off + 3, none⟩) r.length (cap - 1)) r) := ⟨_, _, rfl, by omega, by omega, fun _ => ⟨b, off + 3, rfl, hbB, hN.tail⟩⟩
  have hsr := hide hsm.tail
  unfold maxLen at hmax
  have h1z : (1 : Int) ≤ (r.length : Int) + 1 := by omega
  have hbl : b < w.heap.size := by omega
  have d0 : ∀ ob, (w.alloc ob).cell? ⟨b, off, none⟩ = some (.string path) := fun ob => by rw [World.cell?_alloc_past _ _ _ hbl]; exact c0
  have d1 : ∀ ob, (w.alloc ob).cell? ⟨b, off + 1, none⟩ = some (.int .i64 1) := fun ob => by rw [World.cell?_alloc_past _ _ _ hbl]; exact c1
  have d2 : ∀ ob, (w.alloc ob).cell? ⟨b, off + 2, none⟩ = some (.string data) := fun ob => by rw [World.cell?_alloc_past _ _ _ hbl]; exact c2
  have hk1 : K5 base w (w.alloc (.cells #[.string path, .int .i64 1, .string data] 45)).drew := ((K5.refl base w).alloc hbase _).drew
  have hown1 : (w.alloc (.cells #[.string path, .int .i64 1, .string data] 45)).drew.ownsRow base 5 1 o k xs := (hown.alloc _).drew
  have hbx1 : (w.alloc (.cells #[.string path, .int .i64 1, .string data] 45)).drew.heap[w.heap.size]? = some (.cells #[.string path, .int .i64 1, .string data] 45) := block_new w _
  have hW : ∃ W1, W1 = (w.alloc (.cells #[.string path, .int .i64 1, .string data] 45)).drew := ⟨_, rfl⟩
  clear hsm hcells hN hbk
  by_cases hc1 : cap = 1
  all_goals
    go_enter Tryd.func32, Tryd.ntmps32
    go_wp2
    go_region
    clear c0 c1 c2 d0 d1 d2
    go_wp2_with fail
    obtain ⟨W1, hW1⟩ := hW
    rw [← hW1] at hk1 hown1 hbx1 ⊢
    clear hW1
    refine (kindWord_any 1 W1).mono ?_
    rintro e w2 ⟨rfl, rfl⟩
    have hsz1 := hk1.size
    go_wp2_with fail
    refine (Append_new base _ _ _ [wOpen, wType, wordOf 1] w2 hown1 (by omega) (by omega) (by simp) _ rfl _ rfl).mono ?_
    rintro e W2 ⟨o2, rfl, hown2, hk2⟩
    have hbx2 := hk2.block (by decide) hbx1
    obtain ⟨x0, x1, x2⟩ := box_cells hbx2
    have hK2 := hk1.trans hk2
    have hsz2 := hK2.size
    clear hbx1 hown1 hk1 hk2
    go_wp2_with fail
    refine (Append_new base _ _ _ [wData, data] W2 hown2 (by omega) (by omega) (by simp) _ rfl _ rfl).mono ?_
    rintro e W3 ⟨o3, rfl, hown3, hk3⟩
    have hbx3 := hk3.block (by decide) hbx2
    have hb3 := box_cells hbx3
    have hK3 := hK2.trans hk3
    have hsz3 := hK3.size
    clear hbx2 hown2 hk3 x0 x1 x2
    obtain ⟨x0, x1, x2⟩ := hb3
    go_wp2_with fail
    refine (Append_new base _ _ _ [wClose] W3 hown3 (by omega) (by omega) (by simp) _ rfl _ rfl).mono ?_
    rintro e W4 ⟨o4, rfl, hown4, hk4⟩
    have hbx4 := hk4.block (by decide) hbx3
    have hb4 := box_cells hbx4
    have hK4 := hK3.trans hk4
    have hsz4 := hK4.size
    clear hbx3 hown3 hk4 x0 x1 x2
    obtain ⟨x0, x1, x2⟩ := hb4
    go_wp2
    go_ret2
    refine ⟨_, _, rfl, ?_, (by rw [HX2.out]; first | exact (hrA.out (by assumption)).below hK4.bel | exact hrB.out.below hK4.bel), hK4⟩
    rw [HX1.out]
    simpa [cellsOf_append, List.append_assoc, List.length_append, Nat.add_assoc] using hown4

set_option maxRecDepth 20000 in
set_option maxHeartbeats 1000000 in
theorem node_exec (f : Nat) (base : Nat) (o : Value) (k : Nat) (xs : List Value) (v : Value) (path : ByteArray) (data : ByteArray) (r : List Nd) (w : World)
    (hown : w.ownsRow base 5 1 o k xs) (hbase : base ≤ w.heap.size) (hv : SliceB base w v (⟨path, 2, data⟩ :: r)) (hsm : Small (⟨path, 2, data⟩ :: r)) (hbk : k + bulk (⟨path, 2, data⟩ :: r) ≤ 1000000000000 + 200 + path.size) :
    Calls Tryd.prog 32 #[o, v] w fun e w' => ∃ o' v', e = .returned (.tuple #[o', v']) ∧
      w'.ownsRow base 5 1 o' (k + (nodeF (entsF f) ⟨path, 2, data⟩ r).1.length) (xs ++ cellsOf (nodeF (entsF f) ⟨path, 2, data⟩ r).1) ∧ SliceB base w' v' (nodeF (entsF f) ⟨path, 2, data⟩ r).2 ∧ K5 base w w' := by
  have hbb := nodeF_bulk (entsF f) (entsF_bulk f) ⟨path, 2, data⟩ r
  obtain ⟨X, hX⟩ : ∃ X, nodeF (entsF f) ⟨path, 2, data⟩ r = X := ⟨_, rfl⟩
  rw [hX] at hbb ⊢
  simp only at hbb
  have HX1 : Hid (X.1 = bytesOf [wOpen, wType, wordOf 2] ++ (bytesOf [wExec, wNone] ++ bytesOf [wData, data]) ++ bytesOf [wClose]) := by show _ = _; rw [← hX]; simp [nodeF, bodyF]
  have HX2 : Hid (X.2 = r) := by show _ = _; rw [← hX]; simp [nodeF, bodyF]
  clear hX
  have hhd := head_le 2
  have hcl := close_le
  have hdl := data_le data
  have htl := to_le data
  have hxl := exec_le
  have hbk' : k + (1000 + path.size + data.size + bulk r) ≤ 1000000000000 + 200 + path.size := hbk
  obtain ⟨a, cap, rfl, hcap, hmax, hcells⟩ := hv
  obtain ⟨b, off, rfl, hbB, hN⟩ := hcells (by simp)
  obtain ⟨c0, c1, c2⟩ := hN 0 (by simp)
  simp only [Nat.zero_mul, Nat.add_zero, List.getElem_cons_zero] at c0 c1 c2
  rw [List.length_cons] at hcap ⊢
  have hl := hsm.1
  rw [List.length_cons] at hl
  have hsp := hsm.2 _ (List.mem_cons_self)
  simp only at hsp
  have hrA : Hid (cap = 1 → SliceB base w (.slice (some ⟨b, off, none⟩) r.length 0) r) := fun h => ⟨_, _, rfl, by omega, by omega, fun h2 => by omega⟩
  have hrB : Hid (SliceB base w (.slice (some ⟨b, off + 3, none⟩) r.length (cap - 1)) r) := ⟨_, _, rfl, by omega, by omega, fun _ => ⟨b, off + 3, rfl, hbB, hN.tail⟩⟩
  have hsr := hide hsm.tail
  unfold maxLen at hmax
  have h1z : (1 : Int) ≤ (r.length : Int) + 1 := by omega
  have hbl : b < w.heap.size := by omega
  have d0 : ∀ ob, (w.alloc ob).cell? ⟨b, off, none⟩ = some (.string path) := fun ob => by rw [World.cell?_alloc_past _ _ _ hbl]; exact c0
  have d1 : ∀ ob, (w.alloc ob).cell? ⟨b, off + 1, none⟩ = some (.int .i64 2) := fun ob => by rw [World.cell?_alloc_past _ _ _ hbl]; exact c1
  have d2 : ∀ ob, (w.alloc ob).cell? ⟨b, off + 2, none⟩ = some (.string data) := fun ob => by rw [World.cell?_alloc_past _ _ _ hbl]; exact c2
  have hk1 : K5 base w (w.alloc (.cells #[.string path, .int .i64 2, .string data] 45)).drew := ((K5.refl base w).alloc hbase _).drew
  have hown1 : (w.alloc (.cells #[.string path, .int .i64 2, .string data] 45)).drew.ownsRow base 5 1 o k xs := (hown.alloc _).drew
  have hbx1 : (w.alloc (.cells #[.string path, .int .i64 2, .string data] 45)).drew.heap[w.heap.size]? = some (.cells #[.string path, .int .i64 2, .string data] 45) := block_new w _
  have hW : ∃ W1, W1 = (w.alloc (.cells #[.string path, .int .i64 2, .string data] 45)).drew := ⟨_, rfl⟩
  clear hsm hcells hN hbk
  by_cases hc1 : cap = 1
  all_goals
    go_enter Tryd.func32, Tryd.ntmps32
    go_wp2
    go_region
    clear c0 c1 c2 d0 d1 d2
    go_wp2_with fail
    obtain ⟨W1, hW1⟩ := hW
    rw [← hW1] at hk1 hown1 hbx1 ⊢
    clear hW1
    refine (kindWord_any 2 W1).mono ?_
    rintro e w2 ⟨rfl, rfl⟩
    have hsz1 := hk1.size
    go_wp2_with fail
    refine (Append_new base _ _ _ [wOpen, wType, wordOf 2] w2 hown1 (by omega) (by omega) (by simp) _ rfl _ rfl).mono ?_
    rintro e W2 ⟨o2, rfl, hown2, hk2⟩
    have hbx2 := hk2.block (by decide) hbx1
    obtain ⟨x0, x1, x2⟩ := box_cells hbx2
    have hK2 := hk1.trans hk2
    have hsz2 := hK2.size
    clear hbx1 hown1 hk1 hk2
    go_wp2_with fail
    refine (Append_new base _ _ _ [wExec, wNone] W2 hown2 (by omega) (by omega) (by simp) _ rfl _ rfl).mono ?_
    rintro e W3 ⟨o3, rfl, hown3, hk3⟩
    have hbx3 := hk3.block (by decide) hbx2
    have hb3 := box_cells hbx3
    have hK3 := hK2.trans hk3
    have hsz3 := hK3.size
    clear hbx2 hown2 hk3 x0 x1 x2
    obtain ⟨x0, x1, x2⟩ := hb3
    go_wp2_with fail
    refine (Append_new base _ _ _ [wData, data] W3 hown3 (by omega) (by omega) (by simp) _ rfl _ rfl).mono ?_
    rintro e W4 ⟨o4, rfl, hown4, hk4⟩
    have hbx4 := hk4.block (by decide) hbx3
    have hb4 := box_cells hbx4
    have hK4 := hK3.trans hk4
    have hsz4 := hK4.size
    clear hbx3 hown3 hk4 x0 x1 x2
    obtain ⟨x0, x1, x2⟩ := hb4
    go_wp2_with fail
    refine (Append_new base _ _ _ [wClose] W4 hown4 (by omega) (by omega) (by simp) _ rfl _ rfl).mono ?_
    rintro e W5 ⟨o5, rfl, hown5, hk5⟩
    have hbx5 := hk5.block (by decide) hbx4
    have hb5 := box_cells hbx5
    have hK5 := hK4.trans hk5
    have hsz5 := hK5.size
    clear hbx4 hown4 hk5 x0 x1 x2
    obtain ⟨x0, x1, x2⟩ := hb5
    go_wp2
    go_ret2
    refine ⟨_, _, rfl, ?_, (by rw [HX2.out]; first | exact (hrA.out (by assumption)).below hK5.bel | exact hrB.out.below hK5.bel), hK5⟩
    rw [HX1.out]
    simpa [cellsOf_append, List.append_assoc, List.length_append, Nat.add_assoc] using hown5

set_option maxRecDepth 20000 in
set_option maxHeartbeats 1000000 in
theorem node_link (f : Nat) (base : Nat) (o : Value) (k : Nat) (xs : List Value) (v : Value) (path : ByteArray) (data : ByteArray) (r : List Nd) (w : World)
    (hown : w.ownsRow base 5 1 o k xs) (hbase : base ≤ w.heap.size) (hv : SliceB base w v (⟨path, 3, data⟩ :: r)) (hsm : Small (⟨path, 3, data⟩ :: r)) (hbk : k + bulk (⟨path, 3, data⟩ :: r) ≤ 1000000000000 + 200 + path.size) :
    Calls Tryd.prog 32 #[o, v] w fun e w' => ∃ o' v', e = .returned (.tuple #[o', v']) ∧
      w'.ownsRow base 5 1 o' (k + (nodeF (entsF f) ⟨path, 3, data⟩ r).1.length) (xs ++ cellsOf (nodeF (entsF f) ⟨path, 3, data⟩ r).1) ∧ SliceB base w' v' (nodeF (entsF f) ⟨path, 3, data⟩ r).2 ∧ K5 base w w' := by
  have hbb := nodeF_bulk (entsF f) (entsF_bulk f) ⟨path, 3, data⟩ r
  obtain ⟨X, hX⟩ : ∃ X, nodeF (entsF f) ⟨path, 3, data⟩ r = X := ⟨_, rfl⟩
  rw [hX] at hbb ⊢
  simp only at hbb
  have HX1 : Hid (X.1 = bytesOf [wOpen, wType, wordOf 3] ++ (bytesOf [wTo, data]) ++ bytesOf [wClose]) := by show _ = _; rw [← hX]; simp [nodeF, bodyF]
  have HX2 : Hid (X.2 = r) := by show _ = _; rw [← hX]; simp [nodeF, bodyF]
  clear hX
  have hhd := head_le 3
  have hcl := close_le
  have hdl := data_le data
  have htl := to_le data
  have hxl := exec_le
  have hbk' : k + (1000 + path.size + data.size + bulk r) ≤ 1000000000000 + 200 + path.size := hbk
  obtain ⟨a, cap, rfl, hcap, hmax, hcells⟩ := hv
  obtain ⟨b, off, rfl, hbB, hN⟩ := hcells (by simp)
  obtain ⟨c0, c1, c2⟩ := hN 0 (by simp)
  simp only [Nat.zero_mul, Nat.add_zero, List.getElem_cons_zero] at c0 c1 c2
  rw [List.length_cons] at hcap ⊢
  have hl := hsm.1
  rw [List.length_cons] at hl
  have hsp := hsm.2 _ (List.mem_cons_self)
  simp only at hsp
  have hrA : Hid (cap = 1 → SliceB base w (.slice (some ⟨b, off, none⟩) r.length 0) r) := fun h => ⟨_, _, rfl, by omega, by omega, fun h2 => by omega⟩
  have hrB : Hid (SliceB base w (.slice (some ⟨b, off + 3, none⟩) r.length (cap - 1)) r) := ⟨_, _, rfl, by omega, by omega, fun _ => ⟨b, off + 3, rfl, hbB, hN.tail⟩⟩
  have hsr := hide hsm.tail
  unfold maxLen at hmax
  have h1z : (1 : Int) ≤ (r.length : Int) + 1 := by omega
  have hbl : b < w.heap.size := by omega
  have d0 : ∀ ob, (w.alloc ob).cell? ⟨b, off, none⟩ = some (.string path) := fun ob => by rw [World.cell?_alloc_past _ _ _ hbl]; exact c0
  have d1 : ∀ ob, (w.alloc ob).cell? ⟨b, off + 1, none⟩ = some (.int .i64 3) := fun ob => by rw [World.cell?_alloc_past _ _ _ hbl]; exact c1
  have d2 : ∀ ob, (w.alloc ob).cell? ⟨b, off + 2, none⟩ = some (.string data) := fun ob => by rw [World.cell?_alloc_past _ _ _ hbl]; exact c2
  have hk1 : K5 base w (w.alloc (.cells #[.string path, .int .i64 3, .string data] 45)).drew := ((K5.refl base w).alloc hbase _).drew
  have hown1 : (w.alloc (.cells #[.string path, .int .i64 3, .string data] 45)).drew.ownsRow base 5 1 o k xs := (hown.alloc _).drew
  have hbx1 : (w.alloc (.cells #[.string path, .int .i64 3, .string data] 45)).drew.heap[w.heap.size]? = some (.cells #[.string path, .int .i64 3, .string data] 45) := block_new w _
  have hW : ∃ W1, W1 = (w.alloc (.cells #[.string path, .int .i64 3, .string data] 45)).drew := ⟨_, rfl⟩
  clear hsm hcells hN hbk
  by_cases hc1 : cap = 1
  all_goals
    go_enter Tryd.func32, Tryd.ntmps32
    go_wp2
    go_region
    clear c0 c1 c2 d0 d1 d2
    go_wp2_with fail
    obtain ⟨W1, hW1⟩ := hW
    rw [← hW1] at hk1 hown1 hbx1 ⊢
    clear hW1
    refine (kindWord_any 3 W1).mono ?_
    rintro e w2 ⟨rfl, rfl⟩
    have hsz1 := hk1.size
    go_wp2_with fail
    refine (Append_new base _ _ _ [wOpen, wType, wordOf 3] w2 hown1 (by omega) (by omega) (by simp) _ rfl _ rfl).mono ?_
    rintro e W2 ⟨o2, rfl, hown2, hk2⟩
    have hbx2 := hk2.block (by decide) hbx1
    obtain ⟨x0, x1, x2⟩ := box_cells hbx2
    have hK2 := hk1.trans hk2
    have hsz2 := hK2.size
    clear hbx1 hown1 hk1 hk2
    go_wp2_with fail
    refine (Append_new base _ _ _ [wTo, data] W2 hown2 (by omega) (by omega) (by simp) _ rfl _ rfl).mono ?_
    rintro e W3 ⟨o3, rfl, hown3, hk3⟩
    have hbx3 := hk3.block (by decide) hbx2
    have hb3 := box_cells hbx3
    have hK3 := hK2.trans hk3
    have hsz3 := hK3.size
    clear hbx2 hown2 hk3 x0 x1 x2
    obtain ⟨x0, x1, x2⟩ := hb3
    go_wp2_with fail
    refine (Append_new base _ _ _ [wClose] W3 hown3 (by omega) (by omega) (by simp) _ rfl _ rfl).mono ?_
    rintro e W4 ⟨o4, rfl, hown4, hk4⟩
    have hbx4 := hk4.block (by decide) hbx3
    have hb4 := box_cells hbx4
    have hK4 := hK3.trans hk4
    have hsz4 := hK4.size
    clear hbx3 hown3 hk4 x0 x1 x2
    obtain ⟨x0, x1, x2⟩ := hb4
    go_wp2
    go_ret2
    refine ⟨_, _, rfl, ?_, (by rw [HX2.out]; first | exact (hrA.out (by assumption)).below hK4.bel | exact hrB.out.below hK4.bel), hK4⟩
    rw [HX1.out]
    simpa [cellsOf_append, List.append_assoc, List.length_append, Nat.add_assoc] using hown4

set_option maxRecDepth 20000 in
set_option maxHeartbeats 1000000 in
theorem node_dir (f : Nat) (hE : PEnts f) (base : Nat) (o : Value) (k : Nat) (xs : List Value) (v : Value) (path : ByteArray) (data : ByteArray) (r : List Nd) (w : World)
    (hown : w.ownsRow base 5 1 o k xs) (hbase : base ≤ w.heap.size) (hv : SliceB base w v (⟨path, 4, data⟩ :: r)) (hsm : Small (⟨path, 4, data⟩ :: r)) (hkd : Kinds (⟨path, 4, data⟩ :: r)) (hf : r.length ≤ f) (hbk : k + bulk (⟨path, 4, data⟩ :: r) ≤ 1000000000000 + 200 + path.size) :
    Calls Tryd.prog 32 #[o, v] w fun e w' => ∃ o' v', e = .returned (.tuple #[o', v']) ∧
      w'.ownsRow base 5 1 o' (k + (nodeF (entsF f) ⟨path, 4, data⟩ r).1.length) (xs ++ cellsOf (nodeF (entsF f) ⟨path, 4, data⟩ r).1) ∧ SliceB base w' v' (nodeF (entsF f) ⟨path, 4, data⟩ r).2 ∧ K5 base w w' := by
  have hbb := nodeF_bulk (entsF f) (entsF_bulk f) ⟨path, 4, data⟩ r
  obtain ⟨X, hX⟩ : ∃ X, nodeF (entsF f) ⟨path, 4, data⟩ r = X := ⟨_, rfl⟩
  rw [hX] at hbb ⊢
  simp only at hbb
  have HX1 : Hid (X.1 = bytesOf [wOpen, wType, wordOf 4] ++ (entsF f r (prefixIn path)).1 ++ bytesOf [wClose]) := by show _ = _; rw [← hX]; simp [nodeF, bodyF]
  have HX2 : Hid (X.2 = (entsF f r (prefixIn path)).2) := by show _ = _; rw [← hX]; simp [nodeF, bodyF]
  clear hX
  have hEb := entsF_bulk f r (prefixIn path)
  have hkr := hide (show Kinds r from fun n hn => hkd n (List.mem_cons_of_mem _ hn))
  have HE := hide hE
  clear hE hkd
  have hhd := head_le 4
  have hcl := close_le
  have hdl := data_le data
  have htl := to_le data
  have hxl := exec_le
  have hbk' : k + (1000 + path.size + data.size + bulk r) ≤ 1000000000000 + 200 + path.size := hbk
  obtain ⟨a, cap, rfl, hcap, hmax, hcells⟩ := hv
  obtain ⟨b, off, rfl, hbB, hN⟩ := hcells (by simp)
  obtain ⟨c0, c1, c2⟩ := hN 0 (by simp)
  simp only [Nat.zero_mul, Nat.add_zero, List.getElem_cons_zero] at c0 c1 c2
  rw [List.length_cons] at hcap ⊢
  have hl := hsm.1
  rw [List.length_cons] at hl
  have hsp := hsm.2 _ (List.mem_cons_self)
  simp only at hsp
  have hrA : Hid (cap = 1 → SliceB base w (.slice (some ⟨b, off, none⟩) r.length 0) r) := fun h => ⟨_, _, rfl, by omega, by omega, fun h2 => by omega⟩
  have hrB : Hid (SliceB base w (.slice (some ⟨b, off + 3, none⟩) r.length (cap - 1)) r) := ⟨_, _, rfl, by omega, by omega, fun _ => ⟨b, off + 3, rfl, hbB, hN.tail⟩⟩
  have hsr := hide hsm.tail
  unfold maxLen at hmax
  have h1z : (1 : Int) ≤ (r.length : Int) + 1 := by omega
  have hbl : b < w.heap.size := by omega
  have d0 : ∀ ob, (w.alloc ob).cell? ⟨b, off, none⟩ = some (.string path) := fun ob => by rw [World.cell?_alloc_past _ _ _ hbl]; exact c0
  have d1 : ∀ ob, (w.alloc ob).cell? ⟨b, off + 1, none⟩ = some (.int .i64 4) := fun ob => by rw [World.cell?_alloc_past _ _ _ hbl]; exact c1
  have d2 : ∀ ob, (w.alloc ob).cell? ⟨b, off + 2, none⟩ = some (.string data) := fun ob => by rw [World.cell?_alloc_past _ _ _ hbl]; exact c2
  have hk1 : K5 base w (w.alloc (.cells #[.string path, .int .i64 4, .string data] 45)).drew := ((K5.refl base w).alloc hbase _).drew
  have hown1 : (w.alloc (.cells #[.string path, .int .i64 4, .string data] 45)).drew.ownsRow base 5 1 o k xs := (hown.alloc _).drew
  have hbx1 : (w.alloc (.cells #[.string path, .int .i64 4, .string data] 45)).drew.heap[w.heap.size]? = some (.cells #[.string path, .int .i64 4, .string data] 45) := block_new w _
  have hW : ∃ W1, W1 = (w.alloc (.cells #[.string path, .int .i64 4, .string data] 45)).drew := ⟨_, rfl⟩
  clear hsm hcells hN hbk
  by_cases hc1 : cap = 1
  all_goals
    go_enter Tryd.func32, Tryd.ntmps32
    go_wp2
    go_region
    clear c0 c1 c2 d0 d1 d2
    go_wp2_with fail
    obtain ⟨W1, hW1⟩ := hW
    rw [← hW1] at hk1 hown1 hbx1 ⊢
    clear hW1
    refine (kindWord_any 4 W1).mono ?_
    rintro e w2 ⟨rfl, rfl⟩
    have hsz1 := hk1.size
    go_wp2_with fail
    refine (Append_new base _ _ _ [wOpen, wType, wordOf 4] w2 hown1 (by omega) (by omega) (by simp) _ rfl _ rfl).mono ?_
    rintro e W2 ⟨o2, rfl, hown2, hk2⟩
    have hbx2 := hk2.block (by decide) hbx1
    obtain ⟨x0, x1, x2⟩ := box_cells hbx2
    have hK2 := hk1.trans hk2
    have hsz2 := hK2.size
    clear hbx1 hown1 hk1 hk2
    go_wp2_with fail
    refine (prefixIn_any path W2 (by omega)).mono ?_
    rintro e w3 ⟨rfl, rfl⟩
    go_wp2_with fail
    refine (HE.out base _ _ _ _ r (prefixIn path) w3 hown2 (by omega) (by first | exact (hrA.out (by assumption)).below hK2.bel | exact hrB.out.below hK2.bel) hsr.out hkr.out hf (by omega)).mono ?_
    rintro e W4 ⟨o4, v4, rfl, hown4, hsl4, hk4⟩
    have hK4 := hK2.trans hk4
    have hsz4 := hK4.size
    go_wp2_with fail
    refine (Append_new base _ _ _ [wClose] W4 hown4 (by omega) (by omega) (by simp) _ rfl _ rfl).mono ?_
    rintro e W5 ⟨o5, rfl, hown5, hk5⟩
    go_wp2
    go_ret2
    refine ⟨_, _, rfl, ?_, (by rw [HX2.out]; exact hsl4.below hk5.bel), hK4.trans hk5⟩
    rw [HX1.out]
    simpa [cellsOf_append, List.append_assoc, List.length_append, Nat.add_assoc] using hown5

theorem node_of (f : Nat) (hE : PEnts f) : PNode f := by
  intro base o k xs v n r w hown hbase hv hsm hkd hf hbk
  obtain ⟨path, kind, data⟩ := n
  have hk := hkd _ (List.mem_cons_self)
  simp only at hk
  rcases hk with rfl | rfl | rfl | rfl
  · exact node_file f base o k xs v path data r w hown hbase hv hsm hbk
  · exact node_exec f base o k xs v path data r w hown hbase hv hsm hbk
  · exact node_link f base o k xs v path data r w hown hbase hv hsm hbk
  · exact node_dir f hE base o k xs v path data r w hown hbase hv hsm hkd hf hbk

end Go.Proofs.YticcbaapbnfmmaaDoor
namespace Go.Proofs.YticcbaapbnfmmaaDoor
open Go.RowKit

theorem own_drewN {w : World} {B : Nat} {e : TypeId} {s : Nat} {v : Value} {n : Nat} {xs : List Value} (h : w.ownsRow B e s v n xs) : ∀ q, (w.drewN q).ownsRow B e s v n xs
  | 0 => h
  | q + 1 => (own_drewN h q).drew
def slen : Value → Nat
  | .slice _ n _ => n
  | _ => 0
theorem SliceB.len {B : Nat} {w : World} {v : Value} {ns : List Nd} (h : SliceB B w v ns) : slen v = ns.length := by
  obtain ⟨a, cap, rfl, _⟩ := h
  rfl

set_option maxRecDepth 20000 in
set_option maxHeartbeats 1000000 in
theorem ents_of (f : Nat) (IH : ∀ g, g < f → PNode g) : PEnts f := by
  intro base o k xs v l dir w hown hbase hv hsm hkd hf hbk
  obtain ⟨X, hX⟩ : ∃ X, entsF f l dir = X := ⟨_, rfl⟩
  rw [hX]
  have HX := hide hX
  have IH' := hide IH
  have HS := hide hsm
  have HK := hide hkd
  have hl := hsm.1
  clear hX IH hsm hkd
  go_enter Tryd.func41, Tryd.ntmps41
  go_wp2
  go_loopw [0, 1, 8, 9] (fun o1 v1 _ _ w1 => ∃ (g : Nat) (l1 : List Nd) (b0 : List UInt8), l1.length ≤ g ∧ g ≤ f ∧ w1.ownsRow base 5 1 o1 (k + b0.length) (xs ++ cellsOf b0) ∧ SliceB base w1 v1 l1 ∧ K5 base w w1 ∧ l1 <:+ l ∧ b0.length + bulk l1 ≤ bulk l ∧ Hid (X = (b0 ++ (entsF g l1 dir).1, (entsF g l1 dir).2))) (fun _ v1 _ _ _ => slen v1)
  case atStart => exact ⟨f, l, [], hf, Nat.le_refl _, by simpa [cellsOf] using hown, hv, K5.refl _ _, List.suffix_refl _, by simp, by show _ = _; rw [HX.out]; simp⟩
  case round =>
    obtain ⟨g, l1, b0, hlg, hgf, hown1, hv1, hk1, hsuf, hbb, HXg⟩ := hrel
    have hsz1 := hk1.size
    have hslen := hv1.len
    cases l1 with
    | nil =>
      obtain ⟨a, cap, rfl, _, _, _⟩ := hv1
      have hXe : X = (b0, []) := by
        rw [HXg.out]; cases g <;> simp [entsF]
      subst hXe
      simp only [List.length_nil]
      go_wp2
      go_ret2
      exact ⟨_, _, rfl, hown1, ⟨a, cap, rfl, by assumption, by assumption, by assumption⟩, hk1⟩
    | cons n r =>
      obtain ⟨g, rfl⟩ : ∃ g', g = g' + 1 := ⟨g - 1, by simp at hlg; omega⟩
      have hsr : Small (n :: r) := HS.out.suffix hsuf
      have hkr : Kinds (n :: r) := fun x hx => HK.out x (hsuf.subset hx)
      have cN := fun (o : Value) (k : Nat) (xs : List Value) (v : Value) (w : World) => IH'.out g (by omega) base o k xs v n r w
      have hvr := hv1
      obtain ⟨a, cap, rfl, hcap, hmax, hcells⟩ := hv1
      obtain ⟨b, off, rfl, hbB, hN⟩ := hcells (by simp)
      obtain ⟨c0, c1, c2⟩ := hN 0 (by simp)
      simp only [Nat.zero_mul, Nat.add_zero, List.getElem_cons_zero] at c0 c1 c2
      have hps := (hsr.2 n (List.mem_cons_self)).1
      have hl1 := hsr.1
      rw [List.length_cons] at hcap hl1 hslen hlg ⊢
      have hz : (0 : Int) < (r.length : Int) + 1 := by omega
      by_cases hp : pre n.path = dir
      · have hpb : ((pre n.path).toList == dir.toList) = true := eqB_true hp
        have hbn := nodeF_bulk (entsF g) (entsF_bulk g) n r
        have hsn := nodeF_suffix (entsF g) (entsF_suffix g) n r
        have hXe : X = (b0 ++ bytesOf [wEntry, wOpen, wName, nam n.path, wNode] ++ (nodeF (entsF g) n r).1 ++ bytesOf [wClose] ++ (entsF g (nodeF (entsF g) n r).2 dir).1, (entsF g (nodeF (entsF g) n r).2 dir).2) := by
          rw [HXg.out]
          simp only [entsF, if_pos hp, List.append_assoc]
        have HXe := hide hXe
        have hen := entry_le n.path
        have hcl := close_le
        have hns := nam_size n.path
        have CN := hide cN
        clear HXg hp hXe cN
        go_wp2_with fail
        refine (split_any n.path wr (by omega)).mono ?_
        rintro e w2 ⟨rfl, n2, rfl⟩
        have hown2 := own_drewN hown1 n2
        have hK2 := hk1.drewN n2
        have hK2' : K5 base wr (wr.drewN n2) := (K5.refl base wr).drewN n2
        have hv2 := hvr.below hK2'.bel
        have hsz2 := hK2.size
        generalize wr.drewN n2 = W2 at hown2 hK2 hK2' hv2 hsz2 ⊢
        generalize pre n.path = pp at hpb
        obtain ⟨nn, hnn⟩ : ∃ nn, nam n.path = nn := ⟨_, rfl⟩
        rw [hnn] at hen hns ⊢
        have HNN := hide hnn
        clear hnn hown1 hvr hN hcells hk1 hK2'
        go_wp2_with fail
        refine (Append_new base _ _ _ [wEntry, wOpen, wName, nn, wNode] W2 hown2 (by omega) (by omega) (by simp) _ rfl _ rfl).mono ?_
        rintro e W3 ⟨o3, rfl, hown3, hk3⟩
        have hK3 := hK2.trans hk3
        have hsz3 := hK3.size
        go_wp2_with fail
        refine (CN.out o3 _ _ _ W3 hown3 (by omega) (hv2.below hk3.bel) hsr hkr (by omega) (by omega)).mono ?_
        rintro e W4 ⟨o4, v4, rfl, hown4, hsl4, hk4⟩
        have hK4 := hK3.trans hk4
        have hsz4 := hK4.size
        go_wp2_with fail
        refine (Append_new base _ _ _ [wClose] W4 hown4 (by omega) (by omega) (by simp) _ rfl _ rfl).mono ?_
        rintro e W5 ⟨o5, rfl, hown5, hk5⟩
        have hsl5 := hsl4.below hk5.bel
        have hln := hsl5.len
        have hsl := hsn.length_le
        go_wp2
        go_roundw
        case rel =>
          refine ⟨g, (nodeF (entsF g) n r).2, b0 ++ bytesOf [wEntry, wOpen, wName, nn, wNode] ++ (nodeF (entsF g) n r).1 ++ bytesOf [wClose], by omega, by omega, ?_, hsl5, hK4.trans hk5, hsn.trans ((List.suffix_cons n r).trans hsuf), ?_, ?_⟩
          · simpa [cellsOf_append, List.append_assoc, List.length_append, Nat.add_assoc] using hown5
          · simp only [List.length_append]; omega
          · show _ = _
            rw [HXe.out, HNN.out]
        case measure =>
          rw [hln, hslen]; omega
      · have hpb := eqB_false hp
        have hXe : X = (b0, n :: r) := by rw [HXg.out]; simp [entsF, hp]
        subst hXe
        clear HXg cN hp
        go_wp2_with fail
        refine (split_any n.path wr (by omega)).mono ?_
        rintro e w2 ⟨rfl, n2, rfl⟩
        generalize pre n.path = pp at hpb
        go_wp2
        go_ret2
        exact ⟨_, _, rfl, own_drewN hown1 n2, hvr.below ((K5.refl base wr).drewN n2).bel, hk1.drewN n2⟩

theorem node_any : ∀ f g, g ≤ f → PNode g
  | 0, g, h => node_of g (ents_of g (fun x hx => by omega))
  | f + 1, g, h => node_of g (ents_of g (fun x hx => node_any f x (by omega)))

def packBytes : List Nd → List UInt8
  | [] => []
  | n :: r => bytesOf [wNar] ++ (nodeF (entsF r.length) n r).1
def packRes (ns : List Nd) : Array Value := match firstW ns with
  | some i => #[.string ⟨#[]⟩, .int .i64 1, .int .i64 (i : Int)]
  | none => #[.string ⟨(packBytes ns).toArray⟩, .int .i64 0, .int .i64 0]

theorem fits_kind (k : Int) (d : List UInt8) (h : fits k d = true) : k = 1 ∨ k = 2 ∨ k = 3 ∨ k = 4 := by
  unfold fits at h
  split at h
  · omega
  · split at h
    · omega
    · split at h
      · omega
      · cases h
theorem fwGo_kinds : ∀ (l : List Nd) (i : Nat) (ds : List (ByteArray × ByteArray)), fwGo i ds l = none → Kinds l ∧ (l ≠ [] → i + l.length ≤ 30)
  | [], i, ds, _ => ⟨(fun n hn => by cases hn), fun h => absurd rfl h⟩
  | n :: r, i, ds, h => by
    simp only [fwGo] at h
    by_cases hc : i < 30 ∧ fits n.kind n.data.data.toList = true
    · rw [if_pos hc] at h
      have hr : ∃ j ds', j = i + 1 ∧ fwGo j ds' r = none := by
        by_cases h0 : i = 0
        · rw [if_pos h0] at h
          by_cases hp : n.path.toList.isEmpty = true
          · rw [if_pos hp] at h
            exact ⟨1, _, by omega, h⟩
          · rw [if_neg hp] at h
            cases h
        · rw [if_neg h0] at h
          cases hpl : placeRest ds n.path n.kind with
          | none => rw [hpl] at h; cases h
          | some ds' => rw [hpl] at h; exact ⟨i + 1, ds', rfl, h⟩
      obtain ⟨j, ds', rfl, hr⟩ := hr
      have ih := fwGo_kinds r (i + 1) ds' hr
      refine ⟨fun x hx => ?_, fun _ => ?_⟩
      · rcases List.mem_cons.1 hx with rfl | hx
        · exact fits_kind _ _ hc.2
        · exact ih.1 x hx
      · cases r with
        | nil => simp; omega
        | cons a b => have := ih.2 (by simp); simp only [List.length_cons] at this ⊢; omega
    · rw [if_neg hc] at h
      cases h
theorem bulk_le : ∀ l : List Nd, (∀ n ∈ l, n.path.size ≤ 1000000 ∧ n.data.size ≤ 1000000) → bulk l ≤ l.length * 2001000
  | [], _ => by simp [bulk]
  | n :: r, h => by
    have h1 := h n (List.mem_cons_self)
    have h2 := bulk_le r (fun x hx => h x (List.mem_cons_of_mem _ hx))
    rw [bulk, List.length_cons, Nat.add_mul]
    omega
/-- What an owned row of bytes reads as. -/
theorem own_string (base : Nat) (v : Value) (l : List UInt8) (w : World) (n : Nat) (hn : n = l.length) (hown : w.ownsRow base 5 1 v n (cellsOf l)) (hl : 0 < l.length) :
    ∃ a c, v = .slice (some a) n c ∧ (convert 34 9 (.slice (some a) n c)).run Tryd.prog w = .ok (.string ⟨l.toArray⟩) w := by
  subst hn
  obtain ⟨_, ⟨_, h⟩ | ⟨g, cap, cur, rfl, h2⟩⟩ := hown
  · omega
  · have hown : w.ownsRow base 5 1 (.slice (some ⟨g, 0, none⟩) l.length cap) l.length (cellsOf l) := ⟨by simp [cellsOf_length], .inr ⟨g, cap, cur, rfl, h2⟩⟩
    refine ⟨_, _, rfl, run_convert_bytes_back (P := Tryd.prog) _ 34 9 5 ⟨g, 0, none⟩ cap l Tryd.underlying34 Tryd.underlying5 Tryd.underlying9 (fun j hj => ?_)⟩
    exact hown.cells rfl j _ (by simp [cellsOf, hj])

set_option maxRecDepth 20000 in
set_option maxHeartbeats 1000000 in
theorem treePack_any (v : Value) (ns : List Nd) (w : World) (hT : Lib.Utf8Tabs 0 1 w) (hv : SliceN w v ns) (hsm : Small ns) :
    Calls Tryd.prog 19 #[v] w fun e w' => e = .returned (.tuple (packRes ns)) ∧ Below w.heap.size w w' := by
  have cW := hide (firstWrong_any v ns w hT hv hsm)
  obtain ⟨R, hR⟩ : ∃ R, packRes ns = R := ⟨_, rfl⟩
  rw [hR]
  unfold packRes at hR
  cases hf : firstW ns with
  | some i =>
    rw [hf] at cW hR
    simp only at hR
    subst hR
    clear hf
    unfold wRes at cW
    go_enter Tryd.func19, Tryd.ntmps19
    go_wp2_with fail
    refine cW.out.mono ?_
    rintro e w1 ⟨rfl, hb⟩
    go_wp2
    go_ret3
    exact ⟨rfl, hb⟩
  | none =>
    rw [hf] at cW hR
    simp only at hR
    subst hR
    unfold wRes at cW
    cases ns with
    | nil => simp [firstW] at hf
    | cons n r =>
      have hfw : fwGo 0 [] (n :: r) = none := by unfold firstW at hf; rw [if_neg (by simp)] at hf; exact hf
      obtain ⟨hkd, hlen⟩ := fwGo_kinds _ _ _ hfw
      have hlen := hlen (by simp)
      have hbk := bulk_le (n :: r) hsm.2
      have hbn := nodeF_bulk (entsF r.length) (entsF_bulk r.length) n r
      have cN := hide (node_any r.length r.length (Nat.le_refl _))
      have hwn : (bytesOf [wNar]).length = 16 := by decide
      have hpb : packBytes (n :: r) = bytesOf [wNar] ++ (nodeF (entsF r.length) n r).1 := rfl
      have HPB := hide hpb
      have HSM := hide hsm
      have HKD := hide hkd
      have HV := hide hv
      clear hf hfw hpb hsm hkd hT hv
      go_enter Tryd.func19, Tryd.ntmps19
      go_wp2_with fail
      refine cW.out.mono ?_
      rintro e w1 ⟨rfl, hb⟩
      clear cW
      go_wp2_with fail
      refine (Append_new w1.heap.size _ 0 [] [wNar] w1 (World.ownsRow_nil _ _ _ _) (Nat.le_refl _) (by omega) (by simp) _ rfl _ rfl).mono ?_
      rintro e w2 ⟨o2, rfl, hown2, hk2⟩
      have hsz2 := hk2.size
      go_wp2_with fail
      refine (cN.out w1.heap.size o2 _ _ v n r w2 hown2 (by omega) ((HV.out.below hb).toB.below hk2.bel) HSM.out HKD.out (Nat.le_refl _) (by omega)).mono ?_
      rintro e w3 ⟨o3, v3, rfl, hown3, hsl3, hk3⟩
      have hb3 : Below w.heap.size w w3 := hb.trans ((hk2.bel.trans hk3.bel).mono hb.size)
      obtain ⟨N, hN⟩ : ∃ N, 0 + (bytesOf [wNar]).length + (nodeF (entsF r.length) n r).1.length = N := ⟨_, rfl⟩
      rw [hN] at hown3
      have hNl : N = (packBytes (n :: r)).length := by rw [← hN, HPB.out, List.length_append]; omega
      have hNp : 0 < (packBytes (n :: r)).length := by omega
      obtain ⟨a, c, rfl, hcv⟩ := own_string w1.heap.size o3 (packBytes (n :: r)) w3 N hNl (by rw [HPB.out, cellsOf_append]; simpa using hown3) hNp
      clear hN hNl hNp hwn hbn hown3
      go_wp2
      go_ret3
      exact ⟨rfl, hb3⟩

end Go.Proofs.YticcbaapbnfmmaaDoor
