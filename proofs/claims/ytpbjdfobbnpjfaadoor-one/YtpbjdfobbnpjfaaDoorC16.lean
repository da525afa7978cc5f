/-
  WALKS of the reader, 16: step, whatever must come.
-/
import Derived.Test.YtpbjdfobbnpjfaaDoorC15
import Derived.Test.YtpbjdfobbnpjfaaDoorC12
namespace Go.Proofs.YtpbjdfobbnpjfaaDoor
open Go.RowKit

theorem takeInDir_any {B R : Nat} {w : World} {left lst nds drs : Value} {pos : Nat} {list : List It} {g : Gr} (h : RM B R w left lst nds drs pos list g) (hbd : Bd list g) (hne : g.dirs ≠ []) (s : ByteArray) :
    Calls Tryd.prog 56 #[.pointer (some ⟨R, 0, none⟩), .string s] w (TakePost B R w left pos list (takeF g .inDir s)) := by
  by_cases hs : s = wEntry
  · subst hs; exact takeInDir_entry h hbd
  · exact takeInDir_close h hbd hne s hs
theorem Inv.bd {st : St} {tot : Nat} (h : Inv st tot) (ht : tot ≤ 50000000) {i : It} {r : List It} (hl : st.list = i :: r) : Bd r st.gr := by
  have h1 := h.sum
  have h2 := h.ll
  rw [hl, List.length_cons] at h2
  have h4 := h.ld
  have h5 := h.lp
  exact ⟨by omega, h.ln, by omega, by omega, fun n hn => by have := h.np n hn; omega, fun d hd => by have := h.dp d hd; omega⟩
/-- ONE STRING MORE. -/
theorem step_any {B R : Nat} {w : World} {left lst nds drs : Value} {st : St} {tot : Nat} (h : RM B R w left lst nds drs st.pos st.list st.gr) (hL : LeftAt w left st.left) (hI : Inv st tot) (ht : tot ≤ 50000000) (hT : Lib.Utf8Tabs 0 1 w) (hB2 : 2 ≤ B) :
    Calls Tryd.prog 35 #[.pointer (some ⟨R, 0, none⟩)] w (StepPost B R w (stepF st)) := by
  obtain ⟨l, pos, list, g⟩ := st
  have hsum := hI.sum
  simp only at h hL hsum
  cases list with
  | nil => exact step_nil h hL (by omega)
  | cons i r =>
    have hbd := hI.bd ht rfl
    obtain ⟨hN, hD⟩ := hI.head rfl
    simp only at hbd hN hD
    have hrl := hbd.ll
    cases i with
    | word sw => exact step_word h hL (by omega) (by omega) hrl hT
    | bracket => exact step_method h hL (by omega) (by omega) hrl hT hB2 33 (enters_of Tryd.func33 (by kernel_rfl) rfl) (fun _ _ hx => hx) (fun w left lst nds drs pos s _ _ hm _ => takeBracket_any hm hbd s)
    | kind => exact step_method h hL (by omega) (by omega) hrl hT hB2 46 (enters_of Tryd.func46 (by kernel_rfl) rfl) (fun _ _ hx => hx) (fun w left lst nds drs pos s _ _ hm _ => takeKind_any hm hbd (hN rfl) s)
    | inFile => exact step_method h hL (by omega) (by omega) hrl hT hB2 54 (enters_of Tryd.func54 (by kernel_rfl) rfl) (fun _ _ hx => hx) (fun w left lst nds drs pos s _ _ hm _ => takeInFile_any hm hbd (hN rfl) s)
    | inDir => exact step_method h hL (by omega) (by omega) hrl hT hB2 56 (enters_of Tryd.func56 (by kernel_rfl) rfl) (fun _ _ hx => hx) (fun w left lst nds drs pos s _ _ hm _ => takeInDir_any hm hbd (hD (.inl rfl)) s)
    | name => exact step_method h hL (by omega) (by omega) hrl hT hB2 63 (enters_of Tryd.func63 (by kernel_rfl) rfl) (fun _ _ hx => hx) (fun w left lst nds drs pos s hs hT hm _ => takeName_any hm hbd (hD (.inr rfl)) s (by omega) hT)
    | data => exact step_method h hL (by omega) (by omega) hrl hT hB2 62 (enters_of Tryd.func62 (by kernel_rfl) rfl) (fun _ _ hx => hx) (fun w left lst nds drs pos s hs _ hm _ => takeData_any hm hbd (hN rfl) s (by omega))
end Go.Proofs.YtpbjdfobbnpjfaaDoor
