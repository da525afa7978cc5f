/-
  MATHEMATICS of Broken: a changed node is the first that is wrong.
-/
import Derived.Test.YtpbjdfobbnpjfaaDoorG1
namespace Go.Proofs.YtpbjdfobbnpjfaaDoor
open Go.RowKit

theorem above_some : ∀ (ds : Ds) (p : ByteArray) (a : Nat), above ds p = a + 1 → ∃ h : a < ds.length, ds[a].1 = p ∧ ∀ j (hj : j < ds.length), j < a → ds[j].1 ≠ p
  | [], p, a, h => by cases h
  | d :: r, p, a, h => by
    simp only [above] at h
    split at h
    · rename_i h0
      obtain rfl : a = 0 := by omega
      exact ⟨by simp, h0, fun j _ hj => by omega⟩
    · rename_i h0
      split at h
      · cases h
      · obtain ⟨b, rfl⟩ : ∃ b, a = b + 1 := ⟨a - 1, by omega⟩
        obtain ⟨hb, he, hn⟩ := above_some r p b (by omega)
        refine ⟨by simpa using hb, he, fun j hj hlt => ?_⟩
        cases j with
        | zero => exact h0
        | succ j => exact hn j (by simpa using hj) (by omega)
theorem placeRest_elim (ds ds' : Ds) (path : ByteArray) (kind : Int) (h : placeRest ds path kind = some ds') :
    ∃ a, ∃ hal : a < ds.length, above ds (pre path) = a + 1 ∧ a + 1 ≤ 5 ∧ ds[a].1 = pre path ∧ isNameB (nam path).data.toList = true ∧ notAbove (nam path) ds[a].2 = false ∧ ds' = enterL ((ds.take (a + 1)).set a (ds[a].1, nam path)) path kind := by
  unfold placeRest at h
  simp only at h
  split at h
  · cases h
  · rename_i h1
    split at h
    · cases h
    · rename_i h2
      split at h
      · cases h
      · rename_i h3
        obtain ⟨a, ha⟩ : ∃ a, above ds (pre path) = a + 1 := ⟨above ds (pre path) - 1, by omega⟩
        obtain ⟨hal, hap, _⟩ := above_some ds _ a ha
        rw [ha] at h h1 h3
        simp only [Nat.add_sub_cancel] at h h3
        have hgD : ds.getD a (⟨#[]⟩, ⟨#[]⟩) = ds[a] := by simp [List.getD, hal]
        rw [hgD] at h h3
        exact ⟨a, hal, ha, by omega, hap, by simpa using h2, by simpa using h3, (Option.some.inj h).symm⟩
theorem placeRest_noname (ds : Ds) (path : ByteArray) (kind : Int) (h : isNameB (nam path).data.toList = false) : placeRest ds path kind = none := by
  unfold placeRest
  simp only [h, if_true]
  split <;> rfl
theorem placeRest_nodir (ds : Ds) (path : ByteArray) (kind : Int) (h : above ds (pre path) = 0) : placeRest ds path kind = none := by
  unfold placeRest
  simp only [h]
  rw [if_pos (.inl trivial)]
theorem placeRest_same (ds : Ds) (path : ByteArray) (kind : Int) (a : Nat) (hal : a < ds.length) (h : above ds (pre path) = a + 1) (hl : ds[a].2 = nam path) : placeRest ds path kind = none := by
  have hgD : ds.getD a (⟨#[]⟩, ⟨#[]⟩) = ds[a] := by simp [List.getD, hal]
  unfold placeRest
  simp only [h]
  split
  · rfl
  · split
    · rfl
    · rw [if_pos]
      simp only [Nat.add_sub_cancel, hgD, hl]
      unfold notAbove
      simp

/-- How a prefix that is open begins. -/
def Sh (p : Bs) : Prop := p = [] ∨ ∃ a b r, p = a :: b :: r ∧ a ≠ 47 ∧ (b = 47 ∨ b = 206)
def PS (ds : Ds) : Prop := ∀ d ∈ ds, Sh d.1.data.toList
def Nm (l : List Nd) : Prop := ∀ n ∈ l.tail, IsG (namL n.path.data.toList)
theorem sh_new (p n : Bs) (hp : Sh p) (hn : IsG n) : Sh (p ++ n ++ [47]) := by
  obtain ⟨k, al, hk, rfl⟩ := hn
  have h97 : UInt8.ofNat (97 + k) ≠ 47 := fun e => by
    have := congrArg UInt8.toNat e
    rw [UInt8.toNat_ofNat'] at this
    simp at this; omega
  rcases hp with rfl | ⟨a, b, r, rfl, h1, h2⟩
  · right
    unfold nameG
    cases al
    · exact ⟨_, 47, [], rfl, h97, .inl rfl⟩
    · exact ⟨_, 206, [177, 32, 120, 47], rfl, h97, .inr rfl⟩
  · exact .inr ⟨a, b, r ++ nameG k al ++ [47], by simp, h1, h2⟩
theorem ps_enter (ds : Ds) (path : ByteArray) (kind : Int) (h : PS ds) (hp : Sh (prefixIn path).data.toList) : PS (enterL ds path kind) := by
  unfold enterL
  split
  · intro d hd
    rcases List.mem_append.1 hd with hd | hd
    · exact h d hd
    · rw [List.mem_singleton] at hd; subst hd; exact hp
  · exact h
theorem ps_place (ds ds' : Ds) (path : ByteArray) (kind : Int) (h : PS ds) (hn : IsG (namL path.data.toList)) (hp : placeRest ds path kind = some ds') : PS ds' := by
  obtain ⟨a, hal, _, _, h1, _, _, rfl⟩ := placeRest_elim _ _ _ _ hp
  have hpa := h _ (List.getElem_mem hal)
  refine ps_enter _ _ _ ?_ ?_
  · intro d hd
    rcases List.mem_or_eq_of_mem_set hd with hd | rfl
    · exact h d (List.mem_of_mem_take hd)
    · exact hpa
  · rw [prefixIn_data]
    have hne := hn.name.2.2.2
    have e : path.data.toList = preL path.data.toList ++ namL path.data.toList := (split_eq _).symm
    have hpn : path.data.toList ≠ [] := by rw [e]; simp [hne]
    rw [pin_ne _ hpn, e]
    rw [h1, pre_data] at hpa
    exact sh_new _ _ hpa hn
theorem run_ps : ∀ (m : Nat) (l : List Nd) (ds : Ds), l.length = m → runF 0 [] l = some ds → Nm l → PS ds
  | 0, l, ds, hl, h, _ => by
    rw [List.eq_nil_of_length_eq_zero hl] at h
    simp only [runF, Option.some.injEq] at h
    subst h
    intro d hd; cases hd
  | m + 1, l, ds, hl, h, hn => by
    rcases List.eq_nil_or_concat l with rfl | ⟨A, x, rfl⟩
    · simp at hl
    · rw [List.concat_eq_append] at h hl hn
      rw [run_snoc] at h
      cases hA : runF 0 [] A with
      | none => rw [hA] at h; cases h
      | some d =>
        rw [hA] at h
        simp only [Option.bind_some, Nat.zero_add] at h
        unfold stepW at h
        split at h
        · split at h
          · rename_i h0
            split at h
            · rename_i hp
              have hA0 : A = [] := List.eq_nil_of_length_eq_zero h0
              subst hA0
              simp only [runF, Option.some.injEq] at hA
              subst hA
              cases h
              refine ps_enter _ _ _ (fun d hd => by cases hd) (.inl ?_)
              rw [prefixIn_data]
              rw [ByteArray.toList_eq] at hp
              rw [List.isEmpty_iff.1 hp]; rfl
            · cases h
          · rename_i h0
            have hne : A ≠ [] := fun e => h0 (by rw [e]; rfl)
            have hps := run_ps m A d (by simpa using hl) hA (fun n hn' => hn n (by
              cases A with | nil => exact absurd rfl hne | cons a r => simp at hn' ⊢; exact .inl hn'))
            refine ps_place d ds x.path x.kind hps (hn x ?_) h
            cases A with | nil => exact absurd rfl hne | cons a r => simp
        · cases h

theorem cutL_ge : ∀ (l : Bs) (j : Nat), l[j]? = some 47 → j + 1 ≤ cutL l
  | [], j, h => by simp at h
  | c :: t, 0, h => by
    simp at h
    simp only [cutL, h]
    split
    · omega
    · simp
  | c :: t, j + 1, h => by
    have := cutL_ge t j (by simpa using h)
    simp only [cutL]
    split
    · omega
    · omega
/-- A prefix that opens otherwise is not open. -/
theorem not_open (ds : Ds) (h : PS ds) (path : ByteArray) (hp : ¬ Sh (preL path.data.toList)) : above ds (pre path) = 0 :=
  above_none ds _ (fun k hk e => hp (by rw [← pre_data, ← e]; exact h _ (List.getElem_mem hk)))

theorem not_sh4 (l : Bs) : ¬ Sh (preL ([110, 111, 119, 104, 101, 114, 101, 47] ++ l)) := by
  have hc := cutL_ge ([110, 111, 119, 104, 101, 114, 101, 47] ++ l) 7 rfl
  unfold preL
  obtain ⟨m, hm⟩ : ∃ m, cutL ([110, 111, 119, 104, 101, 114, 101, 47] ++ l) = m + 2 := ⟨cutL ([110, 111, 119, 104, 101, 114, 101, 47] ++ l) - 2, by omega⟩
  rw [hm]
  simp only [List.cons_append, List.take_succ_cons]
  intro hs
  rcases hs with e | ⟨a, b, r, e, h1, h2⟩
  · cases e
  · injection e with e1 e2
    injection e2 with e3 e4
    rw [← e3] at h2
    rcases h2 with h2 | h2 <;> exact absurd h2 (by decide)
theorem not_sh5 (l : Bs) : ¬ Sh (preL ([47] ++ l)) := by
  have hc := cutL_ge ([47] ++ l) 0 rfl
  unfold preL
  obtain ⟨m, hm⟩ : ∃ m, cutL ([47] ++ l) = m + 1 := ⟨cutL ([47] ++ l) - 1, by omega⟩
  rw [hm]
  simp only [List.cons_append, List.take_succ_cons]
  intro hs
  rcases hs with e | ⟨a, b, r, e, h1, h2⟩
  · cases e
  · injection e with e1 e2
    exact h1 e1.symm
theorem name_nil : isNameB [] = false := rfl
def wNowhere : ByteArray := ⟨#[110, 111, 119, 104, 101, 114, 101, 47]⟩
theorem wNowhere_data : wNowhere.data.toList = [110, 111, 119, 104, 101, 114, 101, 47] := rfl
/-- The changes. -/
def chg (x : Nd) (prev : ByteArray) : Nat → Nd
  | 0 => { x with path := x.path ++ ⟨#[47]⟩ }
  | 1 => { x with path := x.path ++ ⟨#[10]⟩ }
  | 2 => { x with kind := 5 }
  | 3 => { x with kind := 0 }
  | 4 => { x with path := wNowhere ++ x.path }
  | 5 => { x with path := ⟨#[47]⟩ ++ x.path }
  | _ => { x with path := prev }
theorem fits5 (d : List UInt8) : fits 5 d = false := by simp [fits]
theorem fits0 (d : List UInt8) : fits 0 d = false := by simp [fits]
theorem stepW_place (i : Nat) (ds : Ds) (n : Nd) (hi : i ≠ 0) (h : placeRest ds n.path n.kind = none) : stepW i ds n = none := by
  unfold stepW
  split
  · first | exact h | (rw [if_neg hi]; exact h)
  · rfl
theorem stepW_root (ds : Ds) (n : Nd) (h : n.path.data.toList ≠ []) : stepW 0 ds n = none := by
  unfold stepW
  split
  · rw [if_pos rfl, if_neg]
    rw [ByteArray.toList_eq]
    cases hh : n.path.data.toList with | nil => exact absurd hh h | cons a b => simp
  · rfl
theorem chg_wrong (A : List Nd) (x : Nd) (ds : Ds) (hA : runF 0 [] A = some ds) (hN : Nm (A ++ [x])) (how : Nat) (hhow : how < 6) : stepW A.length ds (chg x ⟨#[]⟩ how) = none := by
  by_cases h0 : A.length = 0
  · rw [h0]
    rcases (show how = 0 ∨ how = 1 ∨ how = 2 ∨ how = 3 ∨ how = 4 ∨ how = 5 by omega) with rfl | rfl | rfl | rfl | rfl | rfl
    · exact stepW_root _ _ (by simp [chg])
    · exact stepW_root _ _ (by simp [chg])
    · unfold stepW; rw [if_neg (fun h => by rw [show (chg x ⟨#[]⟩ 2).kind = 5 from rfl, fits5] at h; cases h.2)]
    · unfold stepW; rw [if_neg (fun h => by rw [show (chg x ⟨#[]⟩ 3).kind = 0 from rfl, fits0] at h; cases h.2)]
    · exact stepW_root _ _ (by have e4 : (chg x ⟨#[]⟩ 4).path = wNowhere ++ x.path := rfl
                               rw [e4, data_append, wNowhere_data]; simp)
    · exact stepW_root _ _ (by simp [chg])
  · have hne : A ≠ [] := fun e => h0 (by rw [e]; rfl)
    have hG : IsG (namL x.path.data.toList) := hN x (by cases A with | nil => exact absurd rfl hne | cons a r => simp)
    have hps : PS ds := run_ps _ A ds rfl hA (fun n hn' => hN n (by cases A with | nil => exact absurd rfl hne | cons a r => simp at hn' ⊢; exact .inl hn'))
    rcases (show how = 0 ∨ how = 1 ∨ how = 2 ∨ how = 3 ∨ how = 4 ∨ how = 5 by omega) with rfl | rfl | rfl | rfl | rfl | rfl
    · refine stepW_place _ _ _ h0 (placeRest_noname _ _ _ ?_)
      rw [nam_data]
      show isNameB (namL (x.path ++ ⟨#[47]⟩).data.toList) = false
      rw [data_append]
      have : namL (x.path.data.toList ++ [47]) = [] := by unfold namL; rw [cutL_slash]; simp
      rw [show (⟨#[47]⟩ : ByteArray).data.toList = [47] from rfl, this]
      exact name_nil
    · refine stepW_place _ _ _ h0 (placeRest_noname _ _ _ ?_)
      rw [nam_data]
      show isNameB (namL (x.path ++ ⟨#[10]⟩).data.toList) = false
      rw [data_append]
      have : namL (x.path.data.toList ++ [10]) = namL x.path.data.toList ++ [10] := by
        unfold namL; rw [cutL_append _ _ (by decide), List.drop_append_of_le_length (cutL_le _)]
      rw [show (⟨#[10]⟩ : ByteArray).data.toList = [10] from rfl, this]
      exact hG.name.2.2.1
    · unfold stepW; rw [if_neg (fun h => by rw [show (chg x ⟨#[]⟩ 2).kind = 5 from rfl, fits5] at h; cases h.2)]
    · unfold stepW; rw [if_neg (fun h => by rw [show (chg x ⟨#[]⟩ 3).kind = 0 from rfl, fits0] at h; cases h.2)]
    · refine stepW_place _ _ _ h0 (placeRest_nodir _ _ _ (not_open ds hps _ ?_))
      have e4 : (chg x ⟨#[]⟩ 4).path = wNowhere ++ x.path := rfl
      rw [e4, data_append, wNowhere_data]
      exact not_sh4 _
    · refine stepW_place _ _ _ h0 (placeRest_nodir _ _ _ (not_open ds hps _ ?_))
      show ¬ Sh (preL (⟨#[47]⟩ ++ x.path).data.toList)
      rw [data_append]
      exact not_sh5 _
/-- The path of the node ahead, once more. -/
theorem chg_same (A : List Nd) (y x : Nd) (ds : Ds) (hA : runF 0 [] (A ++ [y]) = some ds) : stepW (A.length + 1) ds { x with path := y.path } = none := by
  refine stepW_place _ _ _ (by omega) ?_
  show placeRest ds y.path x.kind = none
  rw [run_snoc] at hA
  cases hA' : runF 0 [] A with
  | none => rw [hA'] at hA; cases hA
  | some d =>
    rw [hA'] at hA
    simp only [Option.bind_some, Nat.zero_add] at hA
    unfold stepW at hA
    split at hA
    · split at hA
      · split at hA
        · rename_i hp
          rw [ByteArray.toList_eq] at hp
          refine placeRest_noname _ _ _ ?_
          rw [nam_data, List.isEmpty_iff.1 hp]
          exact name_nil
        · cases hA
      · obtain ⟨a, hal, h1, _, h3, _, _, rfl⟩ := placeRest_elim _ _ _ _ hA
        obtain ⟨_, _, hno⟩ := above_some d _ a h1
        have hlt : (d.take (a + 1)).length = a + 1 := by rw [List.length_take]; omega
        have hpre : ∃ t, enterL ((d.take (a + 1)).set a (d[a].1, nam y.path)) y.path y.kind = (d.take (a + 1)).set a (d[a].1, nam y.path) ++ t := by
          unfold enterL; split
          · exact ⟨_, rfl⟩
          · exact ⟨[], by simp⟩
        obtain ⟨t, ht⟩ := hpre
        rw [ht]
        have hsl : ((d.take (a + 1)).set a (d[a].1, nam y.path)).length = a + 1 := by rw [List.length_set]; exact hlt
        have hget : ((d.take (a + 1)).set a (d[a].1, nam y.path) ++ t)[a]'(by rw [List.length_append]; omega) = (d[a].1, nam y.path) := by
          rw [List.getElem_append_left (by omega)]; simp
        refine placeRest_same _ _ _ a (by rw [List.length_append]; omega) (above_at _ _ a (by rw [List.length_append]; omega) (by rw [hget]; exact h3) (fun j hj hlt' => ?_)) (by rw [hget])
        rw [List.getElem_append_left (by omega), List.getElem_set_ne (by omega), List.getElem_take]
        exact hno j (by omega) hlt'
    · cases hA
end Go.Proofs.YtpbjdfobbnpjfaaDoor
