import Derived.Test.YticfcjmlphhpgabGreatDoorD04
import Derived.Deep.CutBlock
/-
  Known.
-/
namespace Go.Proofs.YticfcjmlphhpgabGreatDoor
open Go.RowKit Go.Maps

/-- The blocks of the table. -/
def kObjs (B0 : Nat) : List Obj := [.cells #[.string ⟨#[]⟩, .int .i64 1, .string ⟨#[]⟩] 43, .cells #[.string ⟨#[98]⟩, .string ⟨#[97]⟩] 9, .cells #[.string ⟨#[]⟩, .int .i64 1, .string ⟨#[]⟩] 43, .cells #[.string ⟨#[98]⟩, .string ⟨#[97]⟩] 9, .cells #[.string ⟨#[]⟩, .int .i64 1, .string ⟨#[]⟩] 43, .cells #[.string ⟨#[98]⟩, .string ⟨#[97]⟩] 9, .cells #[.string ⟨#[]⟩, .int .i64 1, .string ⟨#[]⟩] 43, .cells #[.string ⟨#[97]⟩, .string ⟨#[97]⟩] 9, .cells #[.string ⟨#[]⟩, .int .i64 1, .string ⟨#[]⟩] 43, .cells #[.string ⟨#[98]⟩] 9, .cells #[.string ⟨#[]⟩, .int .i64 1, .string ⟨#[109]⟩] 43, .cells #[.string ⟨#[109]⟩] 9, .cells #[.string ⟨#[]⟩, .int .i64 1, .string ⟨#[109]⟩] 43, .cells #[.string ⟨#[109]⟩] 9, .cells #[.string ⟨#[]⟩, .int .i64 1, .string ⟨#[110]⟩] 43, .cells #[.string ⟨#[109]⟩] 9, .cells #[.string ⟨#[]⟩, .int .i64 1, .string ⟨#[109]⟩] 43, .cells #[.string ⟨#[]⟩, .int .i64 1, .string ⟨#[110]⟩] 43, .cells #[.string ⟨#[120]⟩] 9, .cells #[.string ⟨#[]⟩, .int .i64 1, .string ⟨#[122]⟩] 43, .cells #[.string ⟨#[109]⟩] 9, .cells #[.string ⟨#[]⟩, .int .i64 1, .string ⟨#[98]⟩] 43, .cells #[.string ⟨#[109]⟩] 9, .cells #[.string ⟨#[]⟩, .int .i64 1, .string ⟨#[97]⟩] 43, .cells #[.string ⟨#[98]⟩, .string ⟨#[122]⟩] 9, .cells #[.string ⟨#[]⟩, .slice (some ⟨B0, 0, none⟩) 1 1, .slice none 0 0, .int .i64 11, .string ⟨#[65]⟩, .slice none 0 0, .slice (some ⟨B0 + 1, 0, none⟩) 2 2, .int .i64 11, .string ⟨#[49, 50, 51, 52, 53, 54, 55, 56, 57, 48, 49, 50, 51]⟩, .slice (some ⟨B0 + 2, 0, none⟩) 1 1, .slice none 0 0, .int .i64 11, .string ⟨#[97]⟩, .slice none 0 0, .slice (some ⟨B0 + 3, 0, none⟩) 2 2, .int .i64 1, .string ⟨#[97]⟩, .slice (some ⟨B0 + 4, 0, none⟩) 1 1, .slice (some ⟨B0 + 5, 0, none⟩) 2 2, .int .i64 7, .string ⟨#[97]⟩, .slice (some ⟨B0 + 6, 0, none⟩) 1 1, .slice (some ⟨B0 + 7, 0, none⟩) 2 2, .int .i64 7, .string ⟨#[97]⟩, .slice (some ⟨B0 + 8, 0, none⟩) 1 1, .slice (some ⟨B0 + 9, 0, none⟩) 1 1, .int .i64 13, .string ⟨#[109]⟩, .slice (some ⟨B0 + 10, 0, none⟩) 1 1, .slice (some ⟨B0 + 11, 0, none⟩) 1 1, .int .i64 0, .string ⟨#[109]⟩, .slice (some ⟨B0 + 12, 0, none⟩) 1 1, .slice (some ⟨B0 + 13, 0, none⟩) 1 1, .int .i64 0, .string ⟨#[109]⟩, .slice (some ⟨B0 + 14, 0, none⟩) 1 1, .slice (some ⟨B0 + 15, 0, none⟩) 1 1, .int .i64 12, .string ⟨#[109]⟩, .slice (some ⟨B0 + 16, 0, none⟩) 1 1, .slice none 0 0, .int .i64 12, .string ⟨#[109]⟩, .slice (some ⟨B0 + 17, 0, none⟩) 1 1, .slice (some ⟨B0 + 18, 0, none⟩) 1 1, .int .i64 13, .string ⟨#[122]⟩, .slice (some ⟨B0 + 19, 0, none⟩) 1 1, .slice (some ⟨B0 + 20, 0, none⟩) 1 1, .int .i64 0, .string ⟨#[98]⟩, .slice (some ⟨B0 + 21, 0, none⟩) 1 1, .slice (some ⟨B0 + 22, 0, none⟩) 1 1, .int .i64 0, .string ⟨#[97]⟩, .slice (some ⟨B0 + 23, 0, none⟩) 1 1, .slice (some ⟨B0 + 24, 0, none⟩) 2 2, .int .i64 0] 54]
def TabB (W : World) (B0 : Nat) : Prop := ∀ j o, (kObjs B0)[j]? = some o → W.heap[B0 + j]? = some o
theorem TabB.kept {W W' : World} {B0 b : Nat} (h : TabB W B0) (hb : b < B0) (hk : ∀ i, i ≠ b → i < W.heap.size → W'.heap[i]? = W.heap[i]?) : TabB W' B0 := fun j o hj => by
  have h1 := h j o hj
  rw [hk (B0 + j) (by omega) (Array.getElem?_eq_some_iff.1 h1).1]
  exact h1
set_option maxRecDepth 20000 in
set_option maxHeartbeats 2000000 in
theorem tab_of {W : World} {B0 : Nat} (hb : TabB W B0) : TabP W (B0 + 25) := by
  have hT := hb 25 _ rfl
  refine ⟨fun k => ([(.slice (some ⟨B0, 0, none⟩) 1 1, .slice none 0 0), (.slice none 0 0, .slice (some ⟨B0 + 1, 0, none⟩) 2 2), (.slice (some ⟨B0 + 2, 0, none⟩) 1 1, .slice none 0 0), (.slice none 0 0, .slice (some ⟨B0 + 3, 0, none⟩) 2 2), (.slice (some ⟨B0 + 4, 0, none⟩) 1 1, .slice (some ⟨B0 + 5, 0, none⟩) 2 2), (.slice (some ⟨B0 + 6, 0, none⟩) 1 1, .slice (some ⟨B0 + 7, 0, none⟩) 2 2), (.slice (some ⟨B0 + 8, 0, none⟩) 1 1, .slice (some ⟨B0 + 9, 0, none⟩) 1 1), (.slice (some ⟨B0 + 10, 0, none⟩) 1 1, .slice (some ⟨B0 + 11, 0, none⟩) 1 1), (.slice (some ⟨B0 + 12, 0, none⟩) 1 1, .slice (some ⟨B0 + 13, 0, none⟩) 1 1), (.slice (some ⟨B0 + 14, 0, none⟩) 1 1, .slice (some ⟨B0 + 15, 0, none⟩) 1 1), (.slice (some ⟨B0 + 16, 0, none⟩) 1 1, .slice none 0 0), (.slice (some ⟨B0 + 17, 0, none⟩) 1 1, .slice (some ⟨B0 + 18, 0, none⟩) 1 1), (.slice (some ⟨B0 + 19, 0, none⟩) 1 1, .slice (some ⟨B0 + 20, 0, none⟩) 1 1), (.slice (some ⟨B0 + 21, 0, none⟩) 1 1, .slice (some ⟨B0 + 22, 0, none⟩) 1 1), (.slice (some ⟨B0 + 23, 0, none⟩) 1 1, .slice (some ⟨B0 + 24, 0, none⟩) 2 2)] : List (Value × Value)).getD k (.slice none 0 0, .slice none 0 0), fun k hk => ?_⟩
  match k, hk with
  | 0, _ => exact ⟨(blk_cell hT).trans rfl, (blk_cell hT).trans rfl, (blk_cell hT).trans rfl, (blk_cell hT).trans rfl, leaf_blk ⟨#[]⟩ (hb 0 _ rfl), strs_nil _⟩
  | 1, _ => exact ⟨(blk_cell hT).trans rfl, (blk_cell hT).trans rfl, (blk_cell hT).trans rfl, (blk_cell hT).trans rfl, nodes_nil _, strs_blk [⟨#[98]⟩, ⟨#[97]⟩] (hb 1 _ rfl)⟩
  | 2, _ => exact ⟨(blk_cell hT).trans rfl, (blk_cell hT).trans rfl, (blk_cell hT).trans rfl, (blk_cell hT).trans rfl, leaf_blk ⟨#[]⟩ (hb 2 _ rfl), strs_nil _⟩
  | 3, _ => exact ⟨(blk_cell hT).trans rfl, (blk_cell hT).trans rfl, (blk_cell hT).trans rfl, (blk_cell hT).trans rfl, nodes_nil _, strs_blk [⟨#[98]⟩, ⟨#[97]⟩] (hb 3 _ rfl)⟩
  | 4, _ => exact ⟨(blk_cell hT).trans rfl, (blk_cell hT).trans rfl, (blk_cell hT).trans rfl, (blk_cell hT).trans rfl, leaf_blk ⟨#[]⟩ (hb 4 _ rfl), strs_blk [⟨#[98]⟩, ⟨#[97]⟩] (hb 5 _ rfl)⟩
  | 5, _ => exact ⟨(blk_cell hT).trans rfl, (blk_cell hT).trans rfl, (blk_cell hT).trans rfl, (blk_cell hT).trans rfl, leaf_blk ⟨#[]⟩ (hb 6 _ rfl), strs_blk [⟨#[97]⟩, ⟨#[97]⟩] (hb 7 _ rfl)⟩
  | 6, _ => exact ⟨(blk_cell hT).trans rfl, (blk_cell hT).trans rfl, (blk_cell hT).trans rfl, (blk_cell hT).trans rfl, leaf_blk ⟨#[]⟩ (hb 8 _ rfl), strs_blk [⟨#[98]⟩] (hb 9 _ rfl)⟩
  | 7, _ => exact ⟨(blk_cell hT).trans rfl, (blk_cell hT).trans rfl, (blk_cell hT).trans rfl, (blk_cell hT).trans rfl, leaf_blk ⟨#[109]⟩ (hb 10 _ rfl), strs_blk [⟨#[109]⟩] (hb 11 _ rfl)⟩
  | 8, _ => exact ⟨(blk_cell hT).trans rfl, (blk_cell hT).trans rfl, (blk_cell hT).trans rfl, (blk_cell hT).trans rfl, leaf_blk ⟨#[109]⟩ (hb 12 _ rfl), strs_blk [⟨#[109]⟩] (hb 13 _ rfl)⟩
  | 9, _ => exact ⟨(blk_cell hT).trans rfl, (blk_cell hT).trans rfl, (blk_cell hT).trans rfl, (blk_cell hT).trans rfl, leaf_blk ⟨#[110]⟩ (hb 14 _ rfl), strs_blk [⟨#[109]⟩] (hb 15 _ rfl)⟩
  | 10, _ => exact ⟨(blk_cell hT).trans rfl, (blk_cell hT).trans rfl, (blk_cell hT).trans rfl, (blk_cell hT).trans rfl, leaf_blk ⟨#[109]⟩ (hb 16 _ rfl), strs_nil _⟩
  | 11, _ => exact ⟨(blk_cell hT).trans rfl, (blk_cell hT).trans rfl, (blk_cell hT).trans rfl, (blk_cell hT).trans rfl, leaf_blk ⟨#[110]⟩ (hb 17 _ rfl), strs_blk [⟨#[120]⟩] (hb 18 _ rfl)⟩
  | 12, _ => exact ⟨(blk_cell hT).trans rfl, (blk_cell hT).trans rfl, (blk_cell hT).trans rfl, (blk_cell hT).trans rfl, leaf_blk ⟨#[122]⟩ (hb 19 _ rfl), strs_blk [⟨#[109]⟩] (hb 20 _ rfl)⟩
  | 13, _ => exact ⟨(blk_cell hT).trans rfl, (blk_cell hT).trans rfl, (blk_cell hT).trans rfl, (blk_cell hT).trans rfl, leaf_blk ⟨#[98]⟩ (hb 21 _ rfl), strs_blk [⟨#[109]⟩] (hb 22 _ rfl)⟩
  | 14, _ => exact ⟨(blk_cell hT).trans rfl, (blk_cell hT).trans rfl, (blk_cell hT).trans rfl, (blk_cell hT).trans rfl, leaf_blk ⟨#[97]⟩ (hb 23 _ rfl), strs_blk [⟨#[98]⟩, ⟨#[122]⟩] (hb 24 _ rfl)⟩
theorem four_newG (w : World) (a b c d : Value) (t : TypeId) : (w.alloc (.cells #[a, b, c, d] t)).cell? ⟨w.heap.size, 0, none⟩ = some a ∧ (w.alloc (.cells #[a, b, c, d] t)).cell? ⟨w.heap.size, 1, none⟩ = some b ∧ (w.alloc (.cells #[a, b, c, d] t)).cell? ⟨w.heap.size, 2, none⟩ = some c ∧ (w.alloc (.cells #[a, b, c, d] t)).cell? ⟨w.heap.size, 3, none⟩ = some d := by
  have h := block_new w (.cells #[a, b, c, d] t)
  refine ⟨?_, ?_, ?_, ?_⟩ <;> (simp only [World.cell?, h]; rfl)
theorem cell_kept {W W' : World} {a : Addr} {v : Value} (h : W.cell? a = some v) (hk : W'.heap[a.block]? = W.heap[a.block]?) : W'.cell? a = some v := by
  unfold World.cell? at h ⊢
  rw [hk]
  exact h
theorem KP.insertW {w0 w : World} {q b : Nat} {S : List Ent} (h : KP w0 w q b S) (x : Ent) {vn vr : Value} (hn : SliceN w vn x.nodes) (hsm : Small x.nodes) (hr : SliceS w vr x.refs) (hx : x.refs.length ≤ 1000 ∧ x.path.size ≤ 1000 ∧ ∀ r ∈ x.refs, r.size ≤ 1000) (hS : ∀ e ∈ S, e.refs.length ≤ 1000) :
    Calls Tryz.prog 14 #[.pointer (some ⟨q, 0, none⟩), .string x.path, vn, vr] w fun e w' => e = .returned (.int .i64 (insertF S x).1) ∧ KP w0 w' q b (insertF S x).2 ∧ ∀ i, i ≠ b → i < w.heap.size → w'.heap[i]? = w.heap[i]? := by
  refine (narInsertF_any (fun _ => True) q b S x vn vr w h.st (fun _ _ => trivial) h.tabs hn hsm hr (by have := hx.1; omega) (fun r hr => by have := hx.2.2 r hr; omega) (fun e he => by have := hS e he; omega) (by have := hx.2.1; omega)).mono ?_
  rintro e w' ⟨rfl, h1, h2⟩
  exact ⟨rfl, ⟨h1, h.qb, h.base, h.bel.trans (h2.2 _ h.base), h.tab⟩, fun i hi hl => h2.1.blk i hl hi⟩
theorem kL_small : Small kL := ⟨by decide, fun n hn => by
  simp only [kL, List.mem_cons, List.not_mem_nil, or_false] at hn
  rcases hn with rfl | rfl | rfl | rfl <;> exact ⟨by decide, by decide⟩⟩
set_option maxRecDepth 20000 in
set_option maxHeartbeats 8000000 in
theorem Known_any (w : World) (hT : Lib.Utf8Tabs 0 1 w) :
    Calls Tryz.prog 5 #[] w fun e w' => e = .returned (.bool true) ∧ Below w.heap.size w w' := by
  have hT2 := tabs2 hT
  have c1 : Hid (Calls Tryz.prog 16 #[.string ⟨#[]⟩] w fun e w' => ∃ z : ByteArray, (z.toList == [37, 35, 34, 132, 228, 156, 242, 203]) = true ∧ e = .returned (.string z) ∧ Below w.heap.size w w') := hide (by
    refine (narSum_any ⟨#[]⟩ w (by decide)).mono ?_
    rintro e w' ⟨rfl, h⟩
    exact ⟨_, eqb_of known_sum0, rfl, h⟩)
  have c2 : Hid (∀ V, Calls Tryz.prog 16 #[.string ⟨#[97]⟩] V fun e w' => ∃ z : ByteArray, (z.toList == [140, 236, 1, 134, 76, 220, 99, 175]) = true ∧ e = .returned (.string z) ∧ Below V.heap.size V w') := hide (fun V => by
    refine (narSum_any ⟨#[97]⟩ V (by decide)).mono ?_
    rintro e w' ⟨rfl, h⟩
    exact ⟨_, eqb_of known_sum1, rfl, h⟩)
  go_enter Tryz.func5, Tryz.ntmps5
  go_wp2_with fail
  refine c1.out.mono ?_
  rintro e w1 ⟨z0, hz0, rfl, hb1⟩
  have HB1 := hide hb1
  clear hb1 c1
  go_wp2_with fail
  refine (c2.out w1).mono ?_
  rintro e w2 ⟨z1, hz1, rfl, hb2⟩
  have HB2 := hide (HB1.out.trans (hb2.mono HB1.out.size))
  clear hb2 c2 HB1
  have cP : Hid (Calls Tryz.prog 17 #[.slice (some ⟨w2.heap.size, 0, none⟩) 4 4] (w2.alloc (.cells #[.string ⟨#[]⟩, .int .i64 4, .string ⟨#[]⟩, .string ⟨#[98]⟩, .int .i64 4, .string ⟨#[]⟩, .string ⟨#[98, 47, 120]⟩, .int .i64 2, .string ⟨#[114, 117, 110]⟩, .string ⟨#[99]⟩, .int .i64 3, .string ⟨#[98, 47, 120]⟩] 43)) fun e w' => e = .returned (.tuple #[.string kP, .int .i64 0, .int .i64 0]) ∧ Below w2.heap.size w2 w') := hide (by
    have hA := (Below.refl _ w2).alloc (Nat.le_refl _) (.cells (flat3 kL).toArray 43)
    have hB := HB2.out.trans (hA.mono HB2.out.size)
    refine (narPack_any (.slice (some ⟨w2.heap.size, 0, none⟩) 4 4) kL _ (tabsB hT2 hT hB) (nodes_blk kL (by decide) (block_new w2 _)) kL_small known_first).mono ?_
    rintro e w' ⟨rfl, h⟩
    exact ⟨rfl, hA.trans (h.mono hA.size)⟩)
  have hkP : (kP.toList == kP.toList) = true := by simp
  go_wp2_with fail
  refine cP.out.mono ?_
  rintro e w3 ⟨rfl, hb3⟩
  have HB3 := hide (HB2.out.trans (hb3.mono HB2.out.size))
  clear hb3 cP HB2
  go_wp2_with fail
  refine (c_kP w3).mono ?_
  rintro e w4 ⟨rfl, hb4⟩
  have HB4 := hide (HB3.out.trans (hb4.mono HB3.out.size))
  clear hb4 HB3
  go_wp2_with fail
  refine (NewStore_any w4).mono ?_
  rintro e w5 ⟨rfl, hN, hb5⟩
  have HN5 := hide (nst_new hN)
  have HB5 := hide hb5
  clear hN hb5
  have HK5 : Hid (KP w w5 (w4.heap.size + 1) w4.heap.size []) := hide ⟨HN5.out, by omega, HB4.out.size, HB4.out.trans (HB5.out.mono HB4.out.size), hT⟩
  have hbB : w4.heap.size < w5.heap.size := by
    have := lt_of_block HN5.out.1
    omega
  clear HN5 HB5 HB4
  generalize w4.heap.size + 1 = q at HK5 ⊢
  generalize w4.heap.size = b at HK5 hbB ⊢
  go_upto_region 12 with fail
  go_cut [117, 118, 119] from 31 to 119 (fun v117 v118 v119 wc => v117 = .slice (some ⟨w5.heap.size + 25, 0, none⟩) 15 15 ∧ v118 = .int .i64 15 ∧ v119 = .int .i64 0 ∧ Hid (TabB wc w5.heap.size) ∧ Hid (Below w5.heap.size w5 wc))
  case first =>
    clear HK5 hbB hz0 hz1 hkP
    go_wp2_with fail
    refine (leaf_any ⟨#[]⟩ _).mono ?_
    rintro e w6 ⟨rfl, rfl⟩
    go_wp2_with fail
    refine (leaf_any ⟨#[]⟩ _).mono ?_
    rintro e w6 ⟨rfl, rfl⟩
    go_wp2_with fail
    refine (leaf_any ⟨#[]⟩ _).mono ?_
    rintro e w6 ⟨rfl, rfl⟩
    go_wp2_with fail
    refine (leaf_any ⟨#[]⟩ _).mono ?_
    rintro e w6 ⟨rfl, rfl⟩
    go_wp2_with fail
    refine (leaf_any ⟨#[]⟩ _).mono ?_
    rintro e w6 ⟨rfl, rfl⟩
    go_wp2_with fail
    refine (leaf_any ⟨#[109]⟩ _).mono ?_
    rintro e w6 ⟨rfl, rfl⟩
    go_wp2_with fail
    refine (leaf_any ⟨#[109]⟩ _).mono ?_
    rintro e w6 ⟨rfl, rfl⟩
    go_wp2_with fail
    refine (leaf_any ⟨#[110]⟩ _).mono ?_
    rintro e w6 ⟨rfl, rfl⟩
    go_wp2_with fail
    refine (leaf_any ⟨#[109]⟩ _).mono ?_
    rintro e w6 ⟨rfl, rfl⟩
    go_wp2_with fail
    refine (leaf_any ⟨#[110]⟩ _).mono ?_
    rintro e w6 ⟨rfl, rfl⟩
    go_wp2_with fail
    refine (leaf_any ⟨#[122]⟩ _).mono ?_
    rintro e w6 ⟨rfl, rfl⟩
    go_wp2_with fail
    refine (leaf_any ⟨#[98]⟩ _).mono ?_
    rintro e w6 ⟨rfl, rfl⟩
    go_wp2_with fail
    refine (leaf_any ⟨#[97]⟩ _).mono ?_
    rintro e w6 ⟨rfl, rfl⟩
    go_wp2
    go_meet
    simp only [Nat.add_assoc, Nat.reduceAdd]
    refine ⟨trivial, trivial, trivial, hide ?_, hide ?_⟩
    · exact fun j o h => (blocks_at w5 (kObjs w5.heap.size) j).1.trans h
    · exact below_blocks w5 (kObjs w5.heap.size)
  case rest =>
  obtain ⟨rfl, rfl, rfl, HT6, HB6⟩ := hcut
  have HK6 := hide (HK5.out.keep HB6.out)
  clear HK5 HB6
  generalize wc = w6 at HT6 HK6 ⊢
  generalize w5.heap.size = B0 at HT6 hbB ⊢
  go_wp2_with fail
  go_loopw [9, 10, 119] (fun _ _ v119 wr => ∃ k : Nat, k ≤ 15 ∧ v119 = .int .i64 (k : Nat) ∧ Hid (KP w wr q b (kSt k)) ∧ Hid (TabB wr B0)) (fun _ _ v119 _ => 15 - (intOf v119).toNat)
  case atStart => exact ⟨0, by omega, rfl, HK6, HT6⟩
  case round =>
    obtain ⟨k, hk, rfl, HK7, HT7⟩ := hrel
    clear HK6 HT6
    by_cases hlt : k < 15
    · have hltz : (k : Int) < 15 := by omega
      obtain ⟨f, hf⟩ := tab_of HT7.out
      obtain ⟨c0, c1, c2, c3, c4, c5⟩ := hf k hlt
      have hsm := kRows_small ⟨k, hlt⟩
      have hins := known_ins ⟨k, hlt⟩
      have hsu := kSt_succ k hlt
      have hfw := few_of (kSt_few ⟨k, by omega⟩)
      simp only at hsm hins hfw
      generalize (kRows[k]'(by rw [kRows_len]; exact hlt)) = row at c0 c1 c2 c3 c4 c5 hsm hins hsu
      obtain ⟨x, ek⟩ := row
      obtain ⟨p, ns, rs⟩ := x
      simp only [Bool.and_eq_true, List.all_eq_true, decide_eq_true_eq] at c0 c3 c4 c5 hsm hins hsu
      generalize f k = fk at c1 c2 c4 c5
      obtain ⟨vn, vr⟩ := fk
      simp only at c1 c2 c4 c5
      rw [Nat.mul_comm] at c0 c1 c2 c3
      have H4 := hide c4
      have H5 := hide c5
      obtain ⟨an, cn, hvn, _⟩ := c4
      subst hvn
      obtain ⟨ar, cr, hvr, _⟩ := c5
      subst hvr
      have HSM := hide hsm
      have HIN := hide hins
      have HSU := hide hsu
      have HFW := hide hfw
      clear hsm hins hsu hfw hf
      go_upto_region 15 with fail
      obtain ⟨a0, a1, a2, a3⟩ := four_newG wr (.string p) (.slice an ns.length cn) (.slice ar rs.length cr) (.int .i64 ek) 54
      have hA := (Below.refl _ wr).alloc (Nat.le_refl _) (.cells #[.string p, .slice an ns.length cn, .slice ar rs.length cr, .int .i64 ek] 54)
      have HK8 := hide (HK7.out.keep hA)
      have HT8 : Hid (TabB (wr.alloc (.cells #[.string p, .slice an ns.length cn, .slice ar rs.length cr, .int .i64 ek] 54)) B0) := hide (HT7.out.kept hbB fun i _ hi => hA.block i hi)
      have H48 := hide (H4.out.below hA)
      have H58 := hide (H5.out.below hA)
      have hg1 : wr.heap.size ≠ b := by
        have := lt_of_block HK7.out.st.1
        have h2 := HT7.out 0 _ rfl
        have := (Array.getElem?_eq_some_iff.1 h2).1
        omega
      have hg2 : wr.heap.size < (wr.alloc (.cells #[.string p, .slice an ns.length cn, .slice ar rs.length cr, .int .i64 ek] 54)).heap.size := by rw [World.size_alloc]; omega
      clear hA c0 c1 c2 c3 HK7 HT7 H4 H5
      generalize wr.alloc (.cells #[.string p, .slice an ns.length cn, .slice ar rs.length cr, .int .i64 ek] 54) = W1 at a0 a1 a2 a3 HK8 HT8 H48 H58 hg2 ⊢
      generalize wr.heap.size = g1 at a0 a1 a2 a3 hg1 hg2 ⊢
      have cI : Hid (Calls Tryz.prog 14 #[.pointer (some ⟨q, 0, none⟩), .string p, .slice an ns.length cn, .slice ar rs.length cr] W1 fun e w' => e = .returned (.int .i64 ek) ∧ w'.cell? ⟨g1, 3, none⟩ = some (.int .i64 ek) ∧ KP w w' q b (kSt (k + 1)) ∧ TabB w' B0) := hide (by
        obtain ⟨⟨⟨⟨s1, s2⟩, s3⟩, s4⟩, s5⟩ := HSM.out
        refine (HK8.out.insertW ⟨p, ns, rs⟩ H48.out ⟨s5, s4⟩ H58.out ⟨s3, s2, s1⟩ HFW.out).mono ?_
        rintro e w' ⟨rfl, h1, h2⟩
        refine ⟨by rw [HIN.out], cell_kept a3 (h2 g1 hg1 hg2), ?_, HT8.out.kept hbB h2⟩
        rw [HSU.out]
        exact h1)
      go_wp2_with fail
      refine cI.out.mono ?_
      rintro e w7 ⟨rfl, d3, hK9, hT9⟩
      have HK9 := hide hK9
      have HT9 := hide hT9
      clear hK9 hT9 cI HK8 HT8 H48 H58 a0 a1 a2 a3
      go_wp2
      go_roundw
      case rel => exact ⟨k + 1, by omega, by go_num, HK9, HT9⟩
      case measure => simp [intOf]; omega
    · have hltz : ¬ (k : Int) < 15 := by omega
      obtain rfl : k = 15 := by omega
      go_upto_if 120 with fail
      iterate 6 go_step
      exact known19 w wr q b HK7 _ _ _ _ _ _ _ _ _ _ _ _ _ _ _ _ _ _ _ _ _ _ _ _ _ _ _ _ _ _ _ _ _ _ _ _ _ _ _ _ _ _ _ _ _ _ _ _ _ _ _ _ _ _ _ _ _ _ _ _ _ _ _ _ _ _ _ _ _ _ _ _ _ _ _ _ _ _ _ _ _ _ _ _ _ _ _ _ _ _ _ _ _ _ _ _ _ _ _ _ _ _ _ _ _ _ _ _ _ _ _ _ _ _ _ _ _ _ _ _ _ _ _ _ _ _ _ _ _ _ _ _ _ _ _ _ _ _ _ _ _ _ _ _ _ _ _ _ _ _ _ _ _ _ _ _ _ _ _ _ _ _ _ _ _ _ _ _ _ _ _ _ _ _ _ _ _ _ _ _ _ _ _ _ _ _ _ _ _ _ _ _ _ _ _ _ _ _ _ _ _ _ _ _ _ _ _ _ _ _ _ _ _ _ _ _ _ _ _ _ _ _ _ _ _ _ _ _ _ _ _ _ _ _ _ _ _ _ _ _ _ _ _ _ _ _ _ _ _ _ _ _ _ _ _ _ _ _ _ _ _ _ _ _ _ _ _ _ _ _ _ _ _ _ _ _ _ _ _ _ _ _ _ _ _ _ _ _ _ _ _ _ _ _ _ _ _ _ _ _ _ _ _ _ _ _ _ _ _ _ _ _ _ _ _ _ _ _ _ _ _ _ _ _ _ _ _ _ _ _ _ _ _ _ _ _ _ _ _ _ _ _ _ _ _ _ _ _ _ _ _ _ _ _ _ _ _ _ _ _ _ _ _ _ _ _ _ _ _ _ _ _ _ _ _ _ _ _ _ _ _ _ _ _ _ _ _ _ _ _ _ _ _ _ _ _ _ _ _ _ _ _ _ _ _ _ _ _ _ _ _ _ _ _ _ _ _ _ _ _ _ _ _
end Go.Proofs.YticfcjmlphhpgabGreatDoor
