/-
  THE ROW's STEP, over a walk that is handed in.
-/
import Derived.Test.YticfcjmlphhpgaaDoorP1
import Derived.Test.YticfcjmlphhpgaaDoorShelf
import Derived.Lib.LaidIn
import Derived.Lib.LaidU8T
import Derived.Deep.DeepHandedRow
import Derived.Deep.DeepWitnessRowRef
namespace Go.Proofs.YticfcjmlphhpgaaDoor
open Go.ChangeShapes Go.WideShapes Go.ChangeAt Go.RowKit Go.Deep Go.Lib

theorem own : ownKnob Tryd.prog.godebug = none := by kernel_rfl
theorem laidOut : laidOutB Tryd.prog = true := by kernel_rfl

theorem weights_mem_all {H : Type} {P : Program} {e : TypeId} : ∀ {ds : List (DataW H)} {d : DataW H} {n : Nat}, d ∈ ds → n ∈ d.weights P e → n ∈ DataW.weightsAll P e ds
  | [], d, n, h, _ => by cases h
  | a :: r, d, n, h, hn => by
    rw [DataW.weightsAll]
    rcases List.mem_cons.1 h with rfl | h
    · exact List.mem_append_left _ hn
    · exact List.mem_append_right _ (weights_mem_all h hn)

/-- What the form's own reach gives of the nodes. -/
theorem sized_nodes {H : Type} {elems spare : List (DataW H)} {ns : List Nd} (h : (DataW.weightsEach Tryd.prog [22] [(.slice elems spare : DataW H)]).all (· ≤ reachBytes) = true)
    (hmem : ∀ y ∈ ns, DataW.agg [.lit (.string y.path.data.toList), .lit (.int .i64 y.kind), .lit (.string y.data.data.toList)] ∈ elems) (hlen : elems.length = ns.length) :
    ns.length ≤ 140737488355328 ∧ ∀ y ∈ ns, y.path.size ≤ 140737488355328 ∧ y.data.size ≤ 140737488355328 := by
  have h1 := sized_slice h (j := 0) (t := 22) (e := 45) rfl rfl Tryd.underlying22
  rw [Tryd.bytes45] at h1
  unfold reachBytes at h1
  refine ⟨by omega, fun y hy => ?_⟩
  have hw : ∀ n, n ∈ DataW.weights Tryd.prog 45 (DataW.agg [.lit (.string y.path.data.toList), .lit (.int .i64 y.kind), .lit (.string y.data.data.toList)] : DataW H) → n ≤ reachBytes := fun n hn => by
    have := List.all_eq_true.1 h n (DataW.weights_mem_each (j := 0) (t := 22) rfl rfl n (by
      simp only [DataW.weights, Tryd.underlying22]
      exact List.mem_cons_of_mem _ (List.mem_append_left _ (weights_mem_all (hmem y hy) hn))))
    simpa using this
  have hl1 : y.path.data.toList.length = y.path.size := by simp
  have hl2 : y.data.data.toList.length = y.data.size := by simp
  have e1 := hw y.path.size (by simp [DataW.weights, Tryd.underlying45, DataW.weightsEach])
  have e2 := hw y.data.size (by simp [DataW.weights, Tryd.underlying45, DataW.weightsEach])
  unfold reachBytes at e1 e2
  omega

/-- A WORLD FOR THE WITNESS: the settled one, the two variables holding what their initialisers lay. -/
noncomputable def laidWorld (os : Os) : World :=
  let w0 := World.holding Tryd.prog os ⟨#[], #[], []⟩
  let put (h : Array Obj) (g : Nat) (cs : Array Value) : Array Obj := h.modify g fun
    | .cells _ t frozen => .cells cs t frozen
    | o => o
  let h1 := put w0.heap 0 (Lib.firstTab.map fun z => Value.int .u8 z).toArray
  let h2 := put h1 1 ((List.range 16).flatMap fun i => [Value.int .u8 (Lib.accLo i), Value.int .u8 (Lib.accHi i)]).toArray
  { w0 with heap := h2 }
theorem laid_met (os : Os) (args : Array Value) : laidMet Tryd.prog Rows.packsRow.laid ((laidWorld os).forCall (fun _ _ => 0) ⟨#[], args, []⟩).memory :=
  (LaidIn.of_run (l := Rows.packsRow.laid) [1, 0] 8 (by kernel_rfl) (by kernel_rfl) (by kernel_rfl) (by kernel_rfl)).met
theorem first_eq : Rows.laid_unicode_utf8_first = Lib.firstData := by kernel_rfl
theorem accept_eq : (Rows.laid_unicode_utf8_acceptRanges : DataW Unit) = Lib.acceptData := by kernel_rfl

set_option maxRecDepth 100000 in
theorem tabs_of {W : World} (hL : laidMetH Tryd.prog Rows.packsRow.laid W) : Lib.Utf8Tabs 0 1 W := by
  have e : Rows.packsRow.laid = [("unicode/utf8.acceptRanges", Lib.acceptData), ("unicode/utf8.first", Lib.firstData)] := by
    rw [← first_eq, ← accept_eq]
    rfl
  rw [e] at hL
  exact utf8Tabs_of_readsT (U8Types.of196 Tryd.laysValid) ⟨by kernel_rfl, by kernel_rfl, by kernel_rfl, by kernel_rfl, by kernel_rfl, by kernel_rfl, by kernel_rfl⟩ (Lib.laidMet.reads hL (.tail _ (.head _))) (Lib.laidMet.reads hL (.head _))

/-- What the law's walk must say. -/
def WalkSaid : Prop := ∀ (v : Value) (ns : List Nd) (w : World), Lib.Utf8Tabs 0 1 w → SliceN w v ns → ns.length ≤ 140737488355328 → (∀ y ∈ ns, y.path.size ≤ 140737488355328 ∧ y.data.size ≤ 140737488355328) →
  Calls Tryd.prog 3 #[v] w fun e w' => e = .returned (.bool true) ∧ Below w.heap.size w w'

theorem witness_row (os : Os) {H : Type} (enc : TypeId × Value → H) :
    (OpenSpec.ofChange Rows.packsSpec).preRow enc Tryd.prog Tryd.f3 Rows.packsRow.domain false Rows.packsRow.laid ((laidWorld os).forCall (fun _ _ => 0) ⟨#[], #[.slice none 0 0], []⟩).memory #[.slice none 0 0] := by
  have hw : (DataW.whole enc Tryd.prog ((laidWorld os).forCall (fun _ _ => 0) ⟨#[], #[.slice none 0 0], []⟩).memory Tryd.f3.params.toList (OpenSpec.ofChange Rows.packsSpec).vars false #[Value.slice none 0 0].toList 8).map (fun x => (x.1, x.2.1)) =
      some ([.nil], []) := by kernel_rfl
  obtain ⟨⟨x1, x2, x3⟩, hx, hx1⟩ := Option.map_eq_some_iff.1 hw
  simp only [Prod.mk.injEq] at hx1
  obtain ⟨rfl, rfl⟩ := hx1
  exact OpenSpec.preRow_of_cond 8 hx (by kernel_rfl) (fun k hk => by cases hk) (by kernel_rfl) (laid_met os _)

set_option maxRecDepth 100000 in
set_option maxRecDepth 20000 in
set_option maxHeartbeats 2000000 in
theorem lifted (hwalk : WalkSaid) (os : Os) (started : os.Started) (H : Type) (enc : TypeId × Value → H) (F : Stop.Interp) :
    ReturnsInHanded {} Tryd.checked os 3 .any ((OpenSpec.ofChange Rows.packsSpec).preRow enc Tryd.prog Tryd.f3 Rows.packsRow.domain false Rows.packsRow.laid) (((OpenSpec.ofChange Rows.packsSpec).at F).post enc Tryd.prog Tryd.f3 false true false false) := by
  refine returnsInHanded_of_row (C := Tryd.checked) (s := OpenSpec.ofChange Rows.packsSpec) own started (by kernel_rfl) Tryd.func3
    (witness_row_atRef (enc := enc) (C := Tryd.checked) false (laidWorld os) #[.slice none 0 0] rfl (by kernel_rfl) (by kernel_rfl) (by kernel_rfl) (witness_row os enc)) ?_
  intro W base args ds gs before hval0 hW _ _ hsz0 hL _ _
  have hval : ∀ (j : Nat) t v, Tryd.f3.params[j]? = some t → args[j]? = some v → Value.okWide Tryd.prog W .any base t v := hval0
  have hW' := hW
  obtain ⟨p, q, hA0, hV0, rfl, _, _⟩ := hW
  have hA : DataW.TrodAll enc Tryd.prog W 0 (fun _ => true) true Tryd.f3.params.toList args.toList ds p := hA0
  have hsz : (DataW.weightsEach Tryd.prog (Tryd.f3.params.toList ++ (OpenSpec.ofChange Rows.packsSpec).bare.plain.varTypes Tryd.prog) (ds ++ gs)).all (· ≤ reachBytes) = true := hsz0
  rw [Tryd.params3] at hA hval hsz
  obtain ⟨v0, d0, rfl, rfl, h0⟩ := trodAll_one hA
  obtain ⟨rfl, rfl⟩ := trodVars_none hV0
  obtain ⟨a0, len0, cap0, rfl⟩ := okWide_slice Tryd.underlying22 (hval 0 22 v0 rfl rfl)
  have htab := tabs_of hL
  have k0 := h0
  have lt0 : ∀ x ∈ p, x.block < W.heap.size := by obtain ⟨m, hm⟩ := k0; exact DataW.trod_lt m _ _ _ hm
  have hsz' : (DataW.weightsEach Tryd.prog [22] [d0]).all (· ≤ reachBytes) = true := hsz
  obtain ⟨ns, hS, hl, hss⟩ : ∃ ns, SliceN W (.slice a0 len0 cap0) ns ∧ ns.length ≤ 140737488355328 ∧ ∀ y ∈ ns, y.path.size ≤ 140737488355328 ∧ y.data.size ≤ 140737488355328 := by
    obtain ⟨fuel, hf⟩ := h0
    rcases open_nodes hf ⟨_, _, _, rfl⟩ with e | ⟨a, cap, ns, elems, spare, e, h1, h2, h3, h4, h5, h6⟩
    · cases e
      exact ⟨[], ⟨none, 0, rfl, by simp, by simp [maxLen], fun _ => rfl, fun h => by simp at h⟩, by simp, fun y hy => by cases hy⟩
    · simp only at h3
      rw [h3] at hsz'
      obtain ⟨g1, g2⟩ := sized_nodes hsz' h4 h5
      refine ⟨ns, ⟨some a, cap, e, h1, h2, (fun h => by cases h), fun hp => ?_⟩, g1, g2⟩
      obtain ⟨b, off, rfl, h7, h8⟩ := h6 hp
      exact ⟨b, off, rfl, h7, h8⟩
  clear hA0 hV0 hval0
  refine (hwalk _ ns W htab hS hl hss).mono ?_
  rintro e W' ⟨rfl, bel⟩
  have e1 : ((OpenSpec.ofChange Rows.packsSpec).at F).fn H ([d0] ++ []) = { results := [.lit (.bool true)], args := [d0] } := rfl
  refine ⟨_, rfl, _, _, _, [], p, [], hW', ?_, ?_, ?_, bel.frame _, fun h => by cases h⟩
  · rw [e1]; exact trodAll_mk1 (shut_bool Tryd.underlying4 _)
  · rw [e1]; exact trodAll_mk1 (Below.trod laidOut (by kernel_rfl) (of_decide_eq_true (by kernel_rfl)) k0 bel lt0)
  · rw [e1]; rfl
end Go.Proofs.YticfcjmlphhpgaaDoor
