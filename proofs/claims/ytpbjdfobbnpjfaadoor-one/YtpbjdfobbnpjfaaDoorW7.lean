/-
  WALKS, 7: a tree's bytes, the entries of a directory; Pack.
-/
import Derived.Test.YtpbjdfobbnpjfaaDoorW6
namespace Go.Proofs.YtpbjdfobbnpjfaaDoor
open Go.RowKit

theorem own_drewN {w : World} {B : Nat} {e : TypeId} {s : Nat} {v : Value} {n : Nat} {xs : List Value} (h : w.ownsRow B e s v n xs) : ∀ q, (w.drewN q).ownsRow B e s v n xs
  | 0 => h
  | q + 1 => (own_drewN h q).drew
def slen : Value → Nat
  | .slice _ n _ => n
  | _ => 0
theorem SliceB.len {B : Nat} {w : World} {v : Value} {ns : List Nd} (h : SliceB B w v ns) : slen v = ns.length := by
  obtain ⟨a, cap, rfl, _⟩ := h
  rfl

set_option maxRecDepth 20000 in
set_option maxHeartbeats 1000000 in
theorem ents_of (f : Nat) (IH : ∀ g, g < f → PNode g) : PEnts f := by
  intro base o k xs v l dir w hown hbase hv hsm hkd hf hbk
  obtain ⟨X, hX⟩ : ∃ X, entsF f l dir = X := ⟨_, rfl⟩
  rw [hX]
  have HX := hide hX
  have IH' := hide IH
  have HS := hide hsm
  have HK := hide hkd
  have hl := hsm.1
  clear hX IH hsm hkd
  go_enter Tryd.func26, Tryd.ntmps26
  go_wp2
  go_loopw [0, 1, 8, 9] (fun o1 v1 _ _ w1 => ∃ (g : Nat) (l1 : List Nd) (b0 : List UInt8), l1.length ≤ g ∧ g ≤ f ∧ w1.ownsRow base 5 1 o1 (k + b0.length) (xs ++ cellsOf b0) ∧ SliceB base w1 v1 l1 ∧ K5 base w w1 ∧ l1 <:+ l ∧ b0.length + bulk l1 ≤ bulk l ∧ Hid (X = (b0 ++ (entsF g l1 dir).1, (entsF g l1 dir).2))) (fun _ v1 _ _ _ => slen v1)
  case atStart => exact ⟨f, l, [], hf, Nat.le_refl _, by simpa [cellsOf] using hown, hv, K5.refl _ _, List.suffix_refl _, by simp, by show _ = _; rw [HX.out]; simp⟩
  case round =>
    obtain ⟨g, l1, b0, hlg, hgf, hown1, hv1, hk1, hsuf, hbb, HXg⟩ := hrel
    have hsz1 := hk1.size
    have hslen := hv1.len
    cases l1 with
    | nil =>
      obtain ⟨a, cap, rfl, _, _, _⟩ := hv1
      have hXe : X = (b0, []) := by
        rw [HXg.out]; cases g <;> simp [entsF]
      subst hXe
      simp only [List.length_nil]
      go_wp2
      go_ret2
      exact ⟨_, _, rfl, hown1, ⟨a, cap, rfl, by assumption, by assumption, by assumption⟩, hk1⟩
    | cons n r =>
      obtain ⟨g, rfl⟩ : ∃ g', g = g' + 1 := ⟨g - 1, by simp at hlg; omega⟩
      have hsr : Small (n :: r) := HS.out.suffix hsuf
      have hkr : Kinds (n :: r) := fun x hx => HK.out x (hsuf.subset hx)
      have cN := fun (o : Value) (k : Nat) (xs : List Value) (v : Value) (w : World) => IH'.out g (by omega) base o k xs v n r w
      have hvr := hv1
      obtain ⟨a, cap, rfl, hcap, hmax, hcells⟩ := hv1
      obtain ⟨b, off, rfl, hbB, hN⟩ := hcells (by simp)
      obtain ⟨c0, c1, c2⟩ := hN 0 (by simp)
      simp only [Nat.zero_mul, Nat.add_zero, List.getElem_cons_zero] at c0 c1 c2
      have hps := (hsr.2 n (List.mem_cons_self)).1
      have hl1 := hsr.1
      rw [List.length_cons] at hcap hl1 hslen hlg ⊢
      have hz : (0 : Int) < (r.length : Int) + 1 := by omega
      by_cases hp : pre n.path = dir
      · have hpb : ((pre n.path).toList == dir.toList) = true := eqB_true hp
        have hbn := nodeF_bulk (entsF g) (entsF_bulk g) n r
        have hsn := nodeF_suffix (entsF g) (entsF_suffix g) n r
        have hXe : X = (b0 ++ bytesOf [wEntry, wOpen, wName, nam n.path, wNode] ++ (nodeF (entsF g) n r).1 ++ bytesOf [wClose] ++ (entsF g (nodeF (entsF g) n r).2 dir).1, (entsF g (nodeF (entsF g) n r).2 dir).2) := by
          rw [HXg.out]
          simp only [entsF, if_pos hp, List.append_assoc]
        have HXe := hide hXe
        have hen := entry_le n.path
        have hcl := close_le
        have hns := nam_size n.path
        have CN := hide cN
        clear HXg hp hXe cN
        go_wp2_with fail
        refine (split_any n.path wr (by omega)).mono ?_
        rintro e w2 ⟨rfl, n2, rfl⟩
        have hown2 := own_drewN hown1 n2
        have hK2 := hk1.drewN n2
        have hK2' : K5 base wr (wr.drewN n2) := (K5.refl base wr).drewN n2
        have hv2 := hvr.below hK2'.bel
        have hsz2 := hK2.size
        generalize wr.drewN n2 = W2 at hown2 hK2 hK2' hv2 hsz2 ⊢
        generalize pre n.path = pp at hpb
        obtain ⟨nn, hnn⟩ : ∃ nn, nam n.path = nn := ⟨_, rfl⟩
        rw [hnn] at hen hns ⊢
        have HNN := hide hnn
        clear hnn hown1 hvr hN hcells hk1 hK2'
        go_wp2_with fail
        refine (Append_new base _ _ _ [wEntry, wOpen, wName, nn, wNode] W2 hown2 (by omega) (by omega) (by simp) _ rfl _ rfl).mono ?_
        rintro e W3 ⟨o3, rfl, hown3, hk3⟩
        have hK3 := hK2.trans hk3
        have hsz3 := hK3.size
        go_wp2_with fail
        refine (CN.out o3 _ _ _ W3 hown3 (by omega) (hv2.below hk3.bel) hsr hkr (by omega) (by omega)).mono ?_
        rintro e W4 ⟨o4, v4, rfl, hown4, hsl4, hk4⟩
        have hK4 := hK3.trans hk4
        have hsz4 := hK4.size
        go_wp2_with fail
        refine (Append_new base _ _ _ [wClose] W4 hown4 (by omega) (by omega) (by simp) _ rfl _ rfl).mono ?_
        rintro e W5 ⟨o5, rfl, hown5, hk5⟩
        have hsl5 := hsl4.below hk5.bel
        have hln := hsl5.len
        have hsl := hsn.length_le
        go_wp2
        go_roundw
        case rel =>
          refine ⟨g, (nodeF (entsF g) n r).2, b0 ++ bytesOf [wEntry, wOpen, wName, nn, wNode] ++ (nodeF (entsF g) n r).1 ++ bytesOf [wClose], by omega, by omega, ?_, hsl5, hK4.trans hk5, hsn.trans ((List.suffix_cons n r).trans hsuf), ?_, ?_⟩
          · simpa [cellsOf_append, List.append_assoc, List.length_append, Nat.add_assoc] using hown5
          · simp only [List.length_append]; omega
          · show _ = _
            rw [HXe.out, HNN.out]
        case measure =>
          rw [hln, hslen]; omega
      · have hpb := eqB_false hp
        have hXe : X = (b0, n :: r) := by rw [HXg.out]; simp [entsF, hp]
        subst hXe
        clear HXg cN hp
        go_wp2_with fail
        refine (split_any n.path wr (by omega)).mono ?_
        rintro e w2 ⟨rfl, n2, rfl⟩
        generalize pre n.path = pp at hpb
        go_wp2
        go_ret2
        exact ⟨_, _, rfl, own_drewN hown1 n2, hvr.below ((K5.refl base wr).drewN n2).bel, hk1.drewN n2⟩

theorem node_any : ∀ f g, g ≤ f → PNode g
  | 0, g, h => node_of g (ents_of g (fun x hx => by omega))
  | f + 1, g, h => node_of g (ents_of g (fun x hx => node_any f x (by omega)))

def packBytes : List Nd → List UInt8
  | [] => []
  | n :: r => bytesOf [wNar] ++ (nodeF (entsF r.length) n r).1
def packRes (ns : List Nd) : Array Value := match firstW ns with
  | some i => #[.string ⟨#[]⟩, .int .i64 1, .int .i64 (i : Int)]
  | none => #[.string ⟨(packBytes ns).toArray⟩, .int .i64 0, .int .i64 0]

theorem fits_kind (k : Int) (d : List UInt8) (h : fits k d = true) : k = 1 ∨ k = 2 ∨ k = 3 ∨ k = 4 := by
  unfold fits at h
  split at h
  · omega
  · split at h
    · omega
    · split at h
      · omega
      · cases h
theorem fwGo_kinds : ∀ (l : List Nd) (i : Nat) (ds : List (ByteArray × ByteArray)), fwGo i ds l = none → Kinds l ∧ (l ≠ [] → i + l.length ≤ 30)
  | [], i, ds, _ => ⟨(fun n hn => by cases hn), fun h => absurd rfl h⟩
  | n :: r, i, ds, h => by
    simp only [fwGo] at h
    by_cases hc : i < 30 ∧ fits n.kind n.data.data.toList = true
    · rw [if_pos hc] at h
      have hr : ∃ j ds', j = i + 1 ∧ fwGo j ds' r = none := by
        by_cases h0 : i = 0
        · rw [if_pos h0] at h
          by_cases hp : n.path.toList.isEmpty = true
          · rw [if_pos hp] at h
            exact ⟨1, _, by omega, h⟩
          · rw [if_neg hp] at h
            cases h
        · rw [if_neg h0] at h
          cases hpl : placeRest ds n.path n.kind with
          | none => rw [hpl] at h; cases h
          | some ds' => rw [hpl] at h; exact ⟨i + 1, ds', rfl, h⟩
      obtain ⟨j, ds', rfl, hr⟩ := hr
      have ih := fwGo_kinds r (i + 1) ds' hr
      refine ⟨fun x hx => ?_, fun _ => ?_⟩
      · rcases List.mem_cons.1 hx with rfl | hx
        · exact fits_kind _ _ hc.2
        · exact ih.1 x hx
      · cases r with
        | nil => simp; omega
        | cons a b => have := ih.2 (by simp); simp only [List.length_cons] at this ⊢; omega
    · rw [if_neg hc] at h
      cases h
theorem bulk_le : ∀ l : List Nd, (∀ n ∈ l, n.path.size ≤ 1000000 ∧ n.data.size ≤ 1000000) → bulk l ≤ l.length * 2001000
  | [], _ => by simp [bulk]
  | n :: r, h => by
    have h1 := h n (List.mem_cons_self)
    have h2 := bulk_le r (fun x hx => h x (List.mem_cons_of_mem _ hx))
    rw [bulk, List.length_cons, Nat.add_mul]
    omega
/-- What an owned row of bytes reads as. -/
theorem own_string (base : Nat) (v : Value) (l : List UInt8) (w : World) (n : Nat) (hn : n = l.length) (hown : w.ownsRow base 5 1 v n (cellsOf l)) (hl : 0 < l.length) :
    ∃ a c, v = .slice (some a) n c ∧ (convert 40 9 (.slice (some a) n c)).run Tryd.prog w = .ok (.string ⟨l.toArray⟩) w := by
  subst hn
  obtain ⟨_, ⟨_, h⟩ | ⟨g, cap, cur, rfl, h2⟩⟩ := hown
  · omega
  · have hown : w.ownsRow base 5 1 (.slice (some ⟨g, 0, none⟩) l.length cap) l.length (cellsOf l) := ⟨by simp [cellsOf_length], .inr ⟨g, cap, cur, rfl, h2⟩⟩
    refine ⟨_, _, rfl, run_convert_bytes_back (P := Tryd.prog) _ 40 9 5 ⟨g, 0, none⟩ cap l Tryd.underlying40 Tryd.underlying5 Tryd.underlying9 (fun j hj => ?_)⟩
    exact hown.cells rfl j _ (by simp [cellsOf, hj])

set_option maxRecDepth 20000 in
set_option maxHeartbeats 1000000 in
theorem treePack_any (v : Value) (ns : List Nd) (w : World) (hT : Lib.Utf8Tabs 0 1 w) (hv : SliceN w v ns) (hsm : Small ns) :
    Calls Tryd.prog 12 #[v] w fun e w' => e = .returned (.tuple (packRes ns)) ∧ Below w.heap.size w w' := by
  have cW := hide (firstWrong_any v ns w hT hv hsm)
  obtain ⟨R, hR⟩ : ∃ R, packRes ns = R := ⟨_, rfl⟩
  rw [hR]
  unfold packRes at hR
  cases hf : firstW ns with
  | some i =>
    rw [hf] at cW hR
    simp only at hR
    subst hR
    clear hf
    unfold wRes at cW
    go_enter Tryd.func12, Tryd.ntmps12
    go_wp2_with fail
    refine cW.out.mono ?_
    rintro e w1 ⟨rfl, hb⟩
    go_wp2
    go_ret3
    exact ⟨rfl, hb⟩
  | none =>
    rw [hf] at cW hR
    simp only at hR
    subst hR
    unfold wRes at cW
    cases ns with
    | nil => simp [firstW] at hf
    | cons n r =>
      have hfw : fwGo 0 [] (n :: r) = none := by unfold firstW at hf; rw [if_neg (by simp)] at hf; exact hf
      obtain ⟨hkd, hlen⟩ := fwGo_kinds _ _ _ hfw
      have hlen := hlen (by simp)
      have hbk := bulk_le (n :: r) hsm.2
      have hbn := nodeF_bulk (entsF r.length) (entsF_bulk r.length) n r
      have cN := hide (node_any r.length r.length (Nat.le_refl _))
      have hwn : (bytesOf [wNar]).length = 16 := by decide
      have hpb : packBytes (n :: r) = bytesOf [wNar] ++ (nodeF (entsF r.length) n r).1 := rfl
      have HPB := hide hpb
      have HSM := hide hsm
      have HKD := hide hkd
      have HV := hide hv
      clear hf hfw hpb hsm hkd hT hv
      go_enter Tryd.func12, Tryd.ntmps12
      go_wp2_with fail
      refine cW.out.mono ?_
      rintro e w1 ⟨rfl, hb⟩
      clear cW
      go_wp2_with fail
      refine (Append_new w1.heap.size _ 0 [] [wNar] w1 (World.ownsRow_nil _ _ _ _) (Nat.le_refl _) (by omega) (by simp) _ rfl _ rfl).mono ?_
      rintro e w2 ⟨o2, rfl, hown2, hk2⟩
      have hsz2 := hk2.size
      go_wp2_with fail
      refine (cN.out w1.heap.size o2 _ _ v n r w2 hown2 (by omega) ((HV.out.below hb).toB.below hk2.bel) HSM.out HKD.out (Nat.le_refl _) (by omega)).mono ?_
      rintro e w3 ⟨o3, v3, rfl, hown3, hsl3, hk3⟩
      have hb3 : Below w.heap.size w w3 := hb.trans ((hk2.bel.trans hk3.bel).mono hb.size)
      obtain ⟨N, hN⟩ : ∃ N, 0 + (bytesOf [wNar]).length + (nodeF (entsF r.length) n r).1.length = N := ⟨_, rfl⟩
      rw [hN] at hown3
      have hNl : N = (packBytes (n :: r)).length := by rw [← hN, HPB.out, List.length_append]; omega
      have hNp : 0 < (packBytes (n :: r)).length := by omega
      obtain ⟨a, c, rfl, hcv⟩ := own_string w1.heap.size o3 (packBytes (n :: r)) w3 N hNl (by rw [HPB.out, cellsOf_append]; simpa using hown3) hNp
      clear hN hNl hNp hwn hbn hown3
      go_wp2
      go_ret3
      exact ⟨rfl, hb3⟩

set_option maxRecDepth 20000 in
set_option maxHeartbeats 400000 in
theorem narPack_any (v : Value) (ns : List Nd) (w : World) (hT : Lib.Utf8Tabs 0 1 w) (hv : SliceN w v ns) (hsm : Small ns) :
    Calls Tryd.prog 7 #[v] w fun e w' => e = .returned (.tuple (packRes ns)) ∧ Below w.heap.size w w' := by
  have c := hide (treePack_any v ns w hT hv hsm)
  obtain ⟨x, y, z, hR⟩ : ∃ x y z, packRes ns = #[x, y, z] := by unfold packRes; split <;> exact ⟨_, _, _, rfl⟩
  rw [hR] at c ⊢
  clear hR
  go_enter Tryd.func7, Tryd.ntmps7
  go_wp2_with fail
  refine c.out.mono ?_
  rintro e w1 ⟨rfl, hb⟩
  go_wp2
  go_ret3
  exact ⟨rfl, hb⟩
end Go.Proofs.YtpbjdfobbnpjfaaDoor
