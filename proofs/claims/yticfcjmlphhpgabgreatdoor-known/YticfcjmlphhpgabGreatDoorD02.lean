import Derived.Test.YticfcjmlphhpgabGreatDoorD01
import Derived.Deep.CutBlock
import Derived.Deep.RegionWith
/-
  Known, from the six paths more on.
-/
namespace Go.Proofs.YticfcjmlphhpgabGreatDoor
open Go.RowKit Go.Maps

theorem conv_one (z : Int) (n : Nat) (hz : z = (n : Int)) (hn : n < 256) (V : World) (b : Nat) (hc : V.cell? ⟨b, 0, none⟩ = some (.int .u8 z)) : (convert 39 9 (.slice (some ⟨b, 0, none⟩) 1 1)).run Tryz.prog V = .ok (.string ⟨#[UInt8.ofNat n]⟩) V := by
  subst hz
  refine run_convert_bytes_back (P := Tryz.prog) _ 39 9 5 ⟨b, 0, none⟩ 1 [UInt8.ofNat n] Tryz.underlying39 Tryz.underlying5 Tryz.underlying9 (fun j hj => ?_)
  simp at hj
  subst hj
  have h : (UInt8.ofNat n).toNat = n := by rw [UInt8.toNat_ofNat']; omega
  have e : ((⟨b, 0, none⟩ : Addr).add 0) = ⟨b, 0, none⟩ := rfl
  simp only [List.getElem_cons_zero, h, e]
  exact hc
theorem blk_new' {V : World} {o : Obj} {i : Nat} (h : i = V.heap.size) : (V.alloc o).heap[i]? = some o := by subst h; exact block_new V o
theorem blk_drew {V : World} {o : Obj} {i : Nat} (h : V.heap[i]? = some o) : V.drew.heap[i]? = some o := h
theorem blk_keep' {V : World} {o o' : Obj} {i : Nat} (h : V.heap[i]? = some o) : (V.alloc o').heap[i]? = some o := block_keep _ h
theorem uQ_size : uQ.size = 48 := by decide +kernel
theorem uR_size : uR.size = 64 := by decide +kernel
theorem uS_size : uS.size = 32 := by decide +kernel
theorem kQ_imp : (importF kT kQ.data.toList).1.2 = (14, 192) := by
  rw [known_q]
  have e : (strB [xE1, xPa, ⟨#[113]⟩] ++ kOne ++ strB [xRs, xSm]).size = 192 := by
    show (uQ ++ kOne ++ uS).size = 192
    rw [ByteArray.size_append, ByteArray.size_append, uQ_size, kOne_size, uS_size]
  rw [e]
set_option maxRecDepth 20000 in
set_option maxHeartbeats 8000000 in
theorem known40 (w0 w : World) (q b : Nat) (HK : Hid (KP w0 w q b kS)) (u0 u1 u2 u3 u4 u5 u8 u9 u10 u11 u12 u14 u15 u16 u17 u18 u19 u20 u21 u22 u23 u24 u25 u26 u27 u28 u29 u30 u31 u32 u33 u34 u35 u36 u37 u38 u39 u40 u41 u42 u43 u44 u45 u46 u47 u48 u49 u50 u51 u52 u53 u54 u55 u56 u57 u58 u59 u60 u61 u62 u63 u64 u65 u66 u67 u68 u69 u70 u71 u72 u73 u74 u75 u76 u77 u78 u79 u80 u81 u82 u83 u84 u85 u86 u87 u88 u89 u90 u91 u92 u93 u94 u95 u96 u97 u98 u99 u100 u101 u102 u103 u104 u105 u106 u107 u108 u109 u110 u111 u112 u113 u114 u115 u116 u117 u118 u119 u120 u121 u122 u123 u124 u125 u126 u127 u128 u129 u130 u131 u132 u133 u134 u135 u136 u137 u138 u139 u140 u141 u142 u143 u144 u145 u146 u147 u148 u149 u150 u151 u152 u153 u154 u155 u156 u157 u158 u159 u160 u161 u162 u163 u164 u165 u166 u167 u168 u169 u170 u171 u172 u173 u174 u175 u176 u177 u178 u179 u180 u181 u182 u183 u184 u185 u186 u187 u188 u189 u190 u191 u192 u193 u194 u195 u196 u197 u198 u199 u200 u201 u202 u203 u204 u205 u206 u207 u208 u209 u210 u211 u212 u213 u214 u215 u216 u217 u218 u219 u220 u221 u222 u223 u224 u225 u226 u227 u228 u229 u230 u231 u232 u233 u234 u235 u236 u237 u238 u239 u240 u241 u242 u243 u244 u245 u246 u247 u248 u249 u250 u251 u252 u253 u254 u255 u256 u257 u258 u259 u260 u261 u262 u263 u264 u265 u266 u267 u268 u269 u270 u271 u272 u273 u274 u275 u276 u277 u278 u279 u280 u281 u282 u283 u284 u285 u286 u287 u288 u289 u290 u291 u292 u293 u294 u295 u296 u297 u298 u299 u300 u301 u302 u303 u304 u305 u306 u307 u308 u309 u310 u311 u312 u313 u314 u315 u316 u317 u318 u319 u320 u321 u322 u323 u324 u325 u326 u327 u328 u329 u330 u331 u332 u333 u334 u335 u336 u337 u338 u339 u340 u341 u342 u343 u344 u345 u346 u347 u348 u349 u350 u351 u352 u353 u354 u355 u356 u357 u358 u359 u360 u361 u362 u363 u364 u365 u366 u367 u368 u369 u370 u371 u372 u373 u374 u375 u376 u377 u378 u379 u380 u381 u382 u383 u384 u385 u386 u387 u388 u389 u390 u391 u392 u393 u394 u395 u396 u397 u398 u399 u400 u401 u402 u403 u404 u405 u406 u407 u408 u409 u410 u411 u412 u413 u414 u415 u416 u417 u418 u419 u420 u421 u422 u423 u424 : Value) :
    Code.wp Tryz.prog (fromC Tryz.f5 40) (bodyPost Tryz.prog Tryz.f5 fun e w' => e = .returned (.bool true) ∧ Below w0.heap.size w0 w') ⟨#[u0, u1, u2, u3, u4, u5, .func (.func 19) #[] #[], .pointer (some ⟨q, 0, none⟩), u8, u9, u10, u11, u12, .string kOne, u14, u15, u16, u17, u18, u19, u20, u21, u22, u23, u24, u25, u26, u27, u28, u29, u30, u31, u32, u33, u34, u35, u36, u37, u38, u39, u40, u41, u42, u43, u44, u45, u46, u47, u48, u49, u50, u51, u52, u53, u54, u55, u56, u57, u58, u59, u60, u61, u62, u63, u64, u65, u66, u67, u68, u69, u70, u71, u72, u73, u74, u75, u76, u77, u78, u79, u80, u81, u82, u83, u84, u85, u86, u87, u88, u89, u90, u91, u92, u93, u94, u95, u96, u97, u98, u99, u100, u101, u102, u103, u104, u105, u106, u107, u108, u109, u110, u111, u112, u113, u114, u115, u116, u117, u118, u119, u120, u121, u122, u123, u124, u125, u126, u127, u128, u129, u130, u131, u132, u133, u134, u135, u136, u137, u138, u139, u140, u141, u142, u143, u144, u145, u146, u147, u148, u149, u150, u151, u152, u153, u154, u155, u156, u157, u158, u159, u160, u161, u162, u163, u164, u165, u166, u167, u168, u169, u170, u171, u172, u173, u174, u175, u176, u177, u178, u179, u180, u181, u182, u183, u184, u185, u186, u187, u188, u189, u190, u191, u192, u193, u194, u195, u196, u197, u198, u199, u200, u201, u202, u203, u204, u205, u206, u207, u208, u209, u210, u211, u212, u213, u214, u215, u216, u217, u218, u219, u220, u221, u222, u223, u224, u225, u226, u227, u228, u229, u230, u231, u232, u233, u234, u235, u236, u237, u238, u239, u240, u241, u242, u243, u244, u245, u246, u247, u248, u249, u250, u251, u252, u253, u254, u255, u256, u257, u258, u259, u260, u261, u262, u263, u264, u265, u266, u267, u268, u269, u270, u271, u272, u273, u274, u275, u276, u277, u278, u279, u280, u281, u282, u283, u284, u285, u286, u287, u288, u289, u290, u291, u292, u293, u294, u295, u296, u297, u298, u299, u300, u301, u302, u303, u304, u305, u306, u307, u308, u309, u310, u311, u312, u313, u314, u315, u316, u317, u318, u319, u320, u321, u322, u323, u324, u325, u326, u327, u328, u329, u330, u331, u332, u333, u334, u335, u336, u337, u338, u339, u340, u341, u342, u343, u344, u345, u346, u347, u348, u349, u350, u351, u352, u353, u354, u355, u356, u357, u358, u359, u360, u361, u362, u363, u364, u365, u366, u367, u368, u369, u370, u371, u372, u373, u374, u375, u376, u377, u378, u379, u380, u381, u382, u383, u384, u385, u386, u387, u388, u389, u390, u391, u392, u393, u394, u395, u396, u397, u398, u399, u400, u401, u402, u403, u404, u405, u406, u407, u408, u409, u410, u411, u412, u413, u414, u415, u416, u417, u418, u419, u420, u421, u422, u423, u424], []⟩ w := by
  unfold fromC
  conv => arg 2; whnf
  go_wp2_with fail
  go_loopw [28, 367] (fun _ v367 wr => ∃ k : Nat, k ≤ 6 ∧ v367 = .int .i64 (k : Nat) ∧ Hid (KP w0 wr q b (kMore k))) (fun _ v367 _ => 6 - (intOf v367).toNat)
  case atStart => exact ⟨0, by omega, rfl, HK⟩
  case round =>
    obtain ⟨k, hk, rfl, HK2⟩ := hrel
    clear HK
    by_cases hlt : k < 6
    · have hltz : (k : Int) < 6 := by omega
      obtain ⟨ck, hck⟩ : ∃ ck : UInt8, UInt8.ofNat (48 + k) = ck := ⟨_, rfl⟩
      obtain ⟨nk, hnk⟩ : ∃ nk, kN k = nk := ⟨_, rfl⟩
      have hnm : (⟨#[107]⟩ : ByteArray) ++ ⟨#[ck]⟩ = nk := by
        rw [← hnk, ← hck]
        exact ba_eqL (by rw [data_append]; rfl)
      have hcv := conv_one (IntKind.u8.wrap (IntKind.i64.wrap (48 + (k : Int)))) (48 + k) (by rw [IntKind.wrap_u8', IntKind.wrap_i64]; omega) (by omega)
      rw [hck] at hcv
      have hcv2 := conv_one (48 + (k : Int)) (48 + k) (by omega) (by omega)
      rw [hck] at hcv2
      have h107 : (⟨#[107]⟩ : ByteArray).size = 1 := rfl
      have hck1 : (⟨#[ck]⟩ : ByteArray).size = 1 := rfl
      have cIns : Hid (∀ (V : World) (i : Nat), Below wr.heap.size wr V → V.heap[i]? = some (.cells #[.string ⟨#[]⟩, .int .i64 1, .string ⟨#[]⟩] 43 (0, 0)) → Calls Tryz.prog 14 #[.pointer (some ⟨q, 0, none⟩), .string nk, .slice (some ⟨i, 0, none⟩) 1 1, .slice none 0 0] V fun e w' => e = .returned (.int .i64 0) ∧ KP w0 w' q b (kMore (k + 1))) := hide fun V i hV hi => by
        have h := (HK2.out.keep hV).insert ⟨kN k, leafN ⟨#[]⟩, []⟩ (leaf_blk ⟨#[]⟩ hi) (leaf_small _ (by decide)) (strs_nil V) ⟨by simp, (show (2 : Nat) ≤ 1000 by omega), fun r hr => by cases hr⟩ (few_of (kMore_few ⟨k, by omega⟩))
        rw [known_more ⟨k, hlt⟩, ← kMore_succ] at h
        rw [← hnk]
        exact h
      clear hnk hck
      go_upto_region 43 with fail
      go_cut [380] from 369 to 380 (fun v380 wc => v380 = .bool false ∧ Hid (KP w0 wc q b (kMore (k + 1))))
      case first =>
        clear HK2
        go_region_with (first | (go_at_call 19; with_reducible refine (leaf_any ⟨#[]⟩ _).mono ?_; rintro e w8 ⟨rfl, rfl⟩) | (go_at_call 14; refine (cIns.out _ _ ?_ ?_).mono ?_; (focus (repeat (first | exact Below.refl _ _ | refine Below.drew ?_ | refine Below.alloc ?_ (by first | exact Nat.le_refl _ | (simp <;> omega)) _))); (focus (repeat (first | exact blk_new' (by simp) | refine blk_drew ?_ | refine blk_keep' ?_))); rintro e w9 ⟨rfl, hK9⟩))
        all_goals
          have HK9 := hide hK9
          go_wp2
          go_meet
          exact ⟨rfl, HK9⟩
      case rest =>
        obtain ⟨rfl, HK3⟩ := hcut
        clear HK2 cIns hcv hcv2 hnm
        go_wp2
        go_roundw
        case rel => exact ⟨k + 1, by omega, by go_num, HK3⟩
        case measure => simp [intOf]; omega
    · obtain rfl : k = 6 := by omega
      have HK2 : Hid (KP w0 wr q b kT) := HK2
      have cF : Hid (Calls Tryz.prog 14 #[.pointer (some ⟨q, 0, none⟩), .string ⟨#[102, 117, 108, 108]⟩, .slice (some ⟨wr.heap.size, 0, none⟩) 1 1, .slice none 0 0] (wr.alloc (.cells #[.string ⟨#[]⟩, .int .i64 1, .string ⟨#[]⟩] 43)) fun e w' => e = .returned (.int .i64 14) ∧ KP w0 w' q b kT) := hide (by
        have h := (HK2.out.alloc (.cells #[.string ⟨#[]⟩, .int .i64 1, .string ⟨#[]⟩] 43)).insert ⟨⟨#[102, 117, 108, 108]⟩, leafN ⟨#[]⟩, []⟩ (leaf_blk ⟨#[]⟩ (block_new _ _)) (leaf_small _ (by decide)) (strs_nil _) ⟨by simp, (show (4 : Nat) ≤ 1000 by omega), fun r hr => by cases hr⟩ (few_of (kMore_few ⟨6, by omega⟩))
        rw [known_full] at h
        exact h)
      go_wp2_with fail
      refine (leaf_any ⟨#[]⟩ _).mono ?_
      rintro e w8 ⟨rfl, rfl⟩
      go_wp2_with fail
      refine cF.out.mono ?_
      rintro e w2 ⟨rfl, hK2⟩
      have HK3 := hide hK2
      clear HK2 cF hK2
      have cM : Hid (Calls Tryz.prog 14 #[.pointer (some ⟨q, 0, none⟩), .string ⟨#[109]⟩, .slice (some ⟨w2.heap.size, 0, none⟩) 1 1, .slice (some ⟨w2.heap.size + 1, 0, none⟩) 1 1] ((w2.alloc (.cells #[.string ⟨#[]⟩, .int .i64 1, .string ⟨#[109]⟩] 43)).alloc (.cells #[.string ⟨#[109]⟩] 9)) fun e w' => e = .returned (.int .i64 0) ∧ KP w0 w' q b kT) := hide (by
        have hs := strs_blk [⟨#[109]⟩] (block_new (w2.alloc (.cells #[.string ⟨#[]⟩, .int .i64 1, .string ⟨#[109]⟩] 43)) (.cells #[.string ⟨#[109]⟩] 9))
        rw [World.size_alloc] at hs
        have h := ((HK3.out.alloc (.cells #[.string ⟨#[]⟩, .int .i64 1, .string ⟨#[109]⟩] 43)).alloc (.cells #[.string ⟨#[109]⟩] 9)).insert ⟨bM, leafN bM, [bM]⟩ (leaf_blk ⟨#[109]⟩ (block_keep _ (block_new _ _))) (leaf_small _ (by decide)) hs ⟨by simp, (show (1 : Nat) ≤ 1000 by omega), fun r hr => by simp at hr; subst hr; decide⟩ (few_of (kMore_few ⟨6, by omega⟩))
        rw [known_same] at h
        exact h)
      go_wp2_with fail
      refine (leaf_any ⟨#[109]⟩ _).mono ?_
      rintro e w8 ⟨rfl, rfl⟩
      go_wp2_with fail
      refine cM.out.mono ?_
      rintro e w3 ⟨rfl, hK3⟩
      have HK4 := hide hK3
      clear HK3 cM hK3
      have hq := uQ_size
      have hr := uR_size
      have hs := uS_size
      have ho := kOne_size
      go_wp2_with fail
      refine (c_uQ w3).mono ?_
      rintro e w4 ⟨rfl, hb4⟩
      have HK5 := hide (HK4.out.keep hb4)
      clear HK4 hb4
      go_wp2_with fail
      refine (narSum_any kOne w4 (by rw [kOne_size]; omega)).mono ?_
      rintro e w5 ⟨rfl, hb5⟩
      have HK6 := hide (HK5.out.keep hb5)
      clear HK5 hb5
      go_wp2_with fail
      refine (c_uR w5).mono ?_
      rintro e w6 ⟨rfl, hb6⟩
      have HK7 := hide (HK6.out.keep hb6)
      clear HK6 hb6
      have cI : Hid (Calls Tryz.prog 11 #[.pointer (some ⟨q, 0, none⟩), .slice (some ⟨w6.heap.size, 0, none⟩) 1 1] (w6.alloc (.cells #[.string (uQ ++ kOne ++ uR)] 9)) fun e w' => ∃ a n c S, e = .returned (.tuple #[.slice a n c, .int .i64 14, .int .i64 192]) ∧ KP w0 w' q b S) := hide (by
        have hj : joinB [kQ] = kQ.data.toList := by simp [joinB]
        have hkq : kQ.size = 224 := by
          show (uQ ++ kOne ++ uR).size = 224
          rw [ByteArray.size_append, ByteArray.size_append, uQ_size, kOne_size, uR_size]
        have hkl : kQ.data.toList.length = kQ.size := by simp
        have h := (HK7.out.alloc (.cells #[.string kQ] 9)).import (strs_new w6 [kQ]) (by simp) (by rw [hj]; omega) (few_of (kMore_few ⟨6, by omega⟩)) kT_len
        rw [hj, kQ_imp] at h
        refine h.mono ?_
        rintro e w' ⟨a, c, rfl, h2⟩
        exact ⟨a, _, c, _, rfl, h2⟩)
      go_wp2_with fail
      refine cI.out.mono ?_
      rintro e w7 ⟨a7, n7, c7, S7, rfl, hK7⟩
      have HK8 := hide hK7
      clear HK7 cI hK7
      go_wp2_with fail
      refine (c_uQ w7).mono ?_
      rintro e w8 ⟨rfl, hb8⟩
      have HK9 := hide (HK8.out.keep hb8)
      clear HK8 hb8
      go_wp2_with fail
      refine (c_uS w8).mono ?_
      rintro e w9 ⟨rfl, hb9⟩
      have HK10 := hide (HK9.out.keep hb9)
      clear HK9 hb9
      go_wp2
      go_ret
      exact ⟨rfl, HK10.out.bel⟩
end Go.Proofs.YticfcjmlphhpgabGreatDoor
