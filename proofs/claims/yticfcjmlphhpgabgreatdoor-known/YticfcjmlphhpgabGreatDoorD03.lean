import Derived.Test.YticfcjmlphhpgabGreatDoorD02
/-
  Known: imports.
-/
namespace Go.Proofs.YticfcjmlphhpgabGreatDoor
open Go.RowKit Go.Maps

def kTab : List (ByteArray × Int × Nat) := [(kNone, 0, 0), (kNone ++ ⟨#[120]⟩, 10, 32), (tE2, 5, 0), (tE1, 2, 16), (kPath ++ tM, 11, 32), (kPath ++ t13, 3, 32), (kPath ++ tMn, 5, 48), (kWhole ++ tEn, 5, 176), (kWhole ++ tRq, 13, 192), (kWhole ++ tRR, 7, 224), (kWhole ++ tS8, 16, 192), (kWhole ++ tS1, 2, 208), (kWhole ++ tS2, 7, 224), (kWhole ++ tS3, 0, 0)]
theorem kTab_len : kTab.length = 14 := rfl
theorem kTab_imp : ∀ k : Fin 14, (importF [] (kTab[k.val]'(by rw [kTab_len]; exact k.isLt)).1.data.toList).1.2 = (kTab[k.val]'(by rw [kTab_len]; exact k.isLt)).2 := by decide +kernel
theorem kTab_size : ∀ k : Fin 14, (kTab[k.val]'(by rw [kTab_len]; exact k.isLt)).1.size ≤ 1000 := by decide +kernel
theorem kNone_size : kNone.size = 32 := by decide +kernel
theorem kPath_size : kPath.size = 32 := by decide +kernel
theorem kWhole_size : kWhole.size = 176 := by decide +kernel
theorem sM_size : sM.size = 16 := by decide +kernel
theorem sRs_size : sRs.size = 16 := by decide +kernel
/-- The table of what is imported. -/
def TabQ (W : World) (g : Nat) : Prop := g < W.heap.size ∧ ∀ k (hk : k < 14), W.cell? ⟨g, 3 * k, none⟩ = some (.string (kTab[k]'(by rw [kTab_len]; exact hk)).1) ∧ W.cell? ⟨g, 3 * k + 1, none⟩ = some (.int .i64 (kTab[k]'(by rw [kTab_len]; exact hk)).2.1) ∧ W.cell? ⟨g, 3 * k + 2, none⟩ = some (.int .i64 ((kTab[k]'(by rw [kTab_len]; exact hk)).2.2 : Nat))
theorem TabQ.below {W W' : World} {g : Nat} (h : TabQ W g) (hb : Below W.heap.size W W') : TabQ W' g := by
  refine ⟨Nat.lt_of_lt_of_le h.1 hb.size, fun k hk => ?_⟩
  obtain ⟨h1, h2, h3⟩ := h.2 k hk
  exact ⟨(hb.cell (p := ⟨g, _, none⟩) h.1).trans h1, (hb.cell (p := ⟨g, _, none⟩) h.1).trans h2, (hb.cell (p := ⟨g, _, none⟩) h.1).trans h3⟩
theorem tabQ_laid (V : World) : TabQ (V.alloc (.cells #[.string kNone, .int .i64 0, .int .i64 0, .string (kNone ++ ⟨#[120]⟩), .int .i64 10, .int .i64 32, .string tE2, .int .i64 5, .int .i64 0, .string tE1, .int .i64 2, .int .i64 16, .string (kPath ++ tM), .int .i64 11, .int .i64 32, .string (kPath ++ t13), .int .i64 3, .int .i64 32, .string (kPath ++ tMn), .int .i64 5, .int .i64 48, .string (kWhole ++ tEn), .int .i64 5, .int .i64 176, .string (kWhole ++ tRq), .int .i64 13, .int .i64 192, .string (kWhole ++ tRR), .int .i64 7, .int .i64 224, .string (kWhole ++ tS8), .int .i64 16, .int .i64 192, .string (kWhole ++ tS1), .int .i64 2, .int .i64 208, .string (kWhole ++ tS2), .int .i64 7, .int .i64 224, .string (kWhole ++ tS3), .int .i64 0, .int .i64 0] 56)) V.heap.size := by
  have hT := block_new V (.cells #[.string kNone, .int .i64 0, .int .i64 0, .string (kNone ++ ⟨#[120]⟩), .int .i64 10, .int .i64 32, .string tE2, .int .i64 5, .int .i64 0, .string tE1, .int .i64 2, .int .i64 16, .string (kPath ++ tM), .int .i64 11, .int .i64 32, .string (kPath ++ t13), .int .i64 3, .int .i64 32, .string (kPath ++ tMn), .int .i64 5, .int .i64 48, .string (kWhole ++ tEn), .int .i64 5, .int .i64 176, .string (kWhole ++ tRq), .int .i64 13, .int .i64 192, .string (kWhole ++ tRR), .int .i64 7, .int .i64 224, .string (kWhole ++ tS8), .int .i64 16, .int .i64 192, .string (kWhole ++ tS1), .int .i64 2, .int .i64 208, .string (kWhole ++ tS2), .int .i64 7, .int .i64 224, .string (kWhole ++ tS3), .int .i64 0, .int .i64 0] 56)
  refine ⟨by rw [World.size_alloc]; omega, fun k hk => ?_⟩
  match k, hk with
  | 0, _ => exact ⟨(blk_cell hT).trans rfl, (blk_cell hT).trans rfl, (blk_cell hT).trans rfl⟩
  | 1, _ => exact ⟨(blk_cell hT).trans rfl, (blk_cell hT).trans rfl, (blk_cell hT).trans rfl⟩
  | 2, _ => exact ⟨(blk_cell hT).trans rfl, (blk_cell hT).trans rfl, (blk_cell hT).trans rfl⟩
  | 3, _ => exact ⟨(blk_cell hT).trans rfl, (blk_cell hT).trans rfl, (blk_cell hT).trans rfl⟩
  | 4, _ => exact ⟨(blk_cell hT).trans rfl, (blk_cell hT).trans rfl, (blk_cell hT).trans rfl⟩
  | 5, _ => exact ⟨(blk_cell hT).trans rfl, (blk_cell hT).trans rfl, (blk_cell hT).trans rfl⟩
  | 6, _ => exact ⟨(blk_cell hT).trans rfl, (blk_cell hT).trans rfl, (blk_cell hT).trans rfl⟩
  | 7, _ => exact ⟨(blk_cell hT).trans rfl, (blk_cell hT).trans rfl, (blk_cell hT).trans rfl⟩
  | 8, _ => exact ⟨(blk_cell hT).trans rfl, (blk_cell hT).trans rfl, (blk_cell hT).trans rfl⟩
  | 9, _ => exact ⟨(blk_cell hT).trans rfl, (blk_cell hT).trans rfl, (blk_cell hT).trans rfl⟩
  | 10, _ => exact ⟨(blk_cell hT).trans rfl, (blk_cell hT).trans rfl, (blk_cell hT).trans rfl⟩
  | 11, _ => exact ⟨(blk_cell hT).trans rfl, (blk_cell hT).trans rfl, (blk_cell hT).trans rfl⟩
  | 12, _ => exact ⟨(blk_cell hT).trans rfl, (blk_cell hT).trans rfl, (blk_cell hT).trans rfl⟩
  | 13, _ => exact ⟨(blk_cell hT).trans rfl, (blk_cell hT).trans rfl, (blk_cell hT).trans rfl⟩
theorem known_row (k : Nat) (hk : k < 14) : ∃ X e n ad T, kTab[k]'(by rw [kTab_len]; exact hk) = (X, e, n) ∧ importF [] X.data.toList = ((ad, e, n), T) ∧ (e ≠ 0 → ad = [] ∧ T = []) ∧ X.size ≤ 1000 := by
  obtain ⟨X, e, n, hr⟩ : ∃ X e n, kTab[k]'(by rw [kTab_len]; exact hk) = (X, e, n) := ⟨_, _, _, rfl⟩
  have h1 := kTab_imp ⟨k, hk⟩
  have h2 := kTab_size ⟨k, hk⟩
  simp only [hr] at h1 h2
  obtain ⟨⟨⟨ad, e', n'⟩, T⟩, hI⟩ : ∃ r, importF [] X.data.toList = r := ⟨_, rfl⟩
  have h3 := import_place (A := []) X.data.toList
  rw [hI] at h1 h3
  simp only [Prod.mk.injEq] at h1
  obtain ⟨rfl, rfl⟩ := h1
  refine ⟨X, e', n', ad, T, hr, hI, fun hne => ?_, h2⟩
  rcases h3 with h3 | h3
  · exact absurd h3.1 hne
  · exact ⟨h3.2.1, h3.2.2.1⟩
set_option maxRecDepth 20000 in
set_option maxHeartbeats 8000000 in
theorem known30 (w0 w1 : World) (q b : Nat) (HK1 : Hid (KP w0 w1 q b kS)) (u0 u1 u2 u3 u4 u5 u8 u9 u10 u11 u12 u14 u15 u16 u17 u18 u20 u21 u22 u23 u24 u25 u26 u27 u28 u29 u30 u31 u32 u33 u34 u35 u36 u37 u38 u39 u40 u41 u42 u43 u44 u45 u46 u47 u48 u49 u50 u51 u52 u53 u54 u55 u56 u57 u58 u59 u60 u61 u62 u63 u64 u65 u66 u67 u68 u69 u70 u71 u72 u73 u74 u75 u76 u77 u78 u79 u80 u81 u82 u83 u84 u85 u86 u87 u88 u89 u90 u91 u92 u93 u94 u95 u96 u97 u98 u99 u100 u101 u102 u103 u104 u105 u106 u107 u108 u109 u110 u111 u112 u113 u114 u115 u116 u117 u118 u119 u120 u121 u122 u123 u124 u125 u126 u127 u128 u129 u130 u131 u132 u133 u134 u135 u136 u137 u138 u139 u140 u141 u142 u143 u144 u145 u146 u147 u148 u149 u150 u151 u152 u153 u154 u155 u156 u157 u158 u159 u160 u161 u162 u163 u164 u165 u166 u167 u168 u169 u170 u171 u172 u173 u174 u175 u176 u177 u178 u179 u180 u181 u182 u183 u184 u185 u186 u187 u188 u189 u190 u191 u192 u193 u194 u195 u196 u197 u198 u199 u200 u201 u202 u203 u204 u205 u206 u207 u208 u209 u210 u211 u212 u213 u214 u215 u216 u217 u218 u219 u220 u221 u222 u223 u224 u225 u226 u227 u228 u229 u230 u231 u232 u233 u234 u235 u236 u237 u238 u239 u240 u241 u242 u243 u244 u245 u246 u247 u248 u249 u250 u251 u252 u253 u254 u255 u256 u257 u258 u259 u260 u261 u262 u263 u264 u265 u266 u267 u268 u269 u270 u271 u272 u273 u274 u275 u276 u277 u278 u279 u280 u281 u282 u283 u284 u285 u286 u287 u288 u289 u290 u291 u292 u293 u294 u295 u296 u297 u298 u299 u300 u301 u302 u303 u304 u305 u306 u307 u308 u309 u310 u311 u312 u313 u314 u315 u316 u317 u318 u319 u320 u321 u322 u323 u324 u325 u326 u327 u328 u329 u330 u331 u332 u333 u334 u335 u336 u337 u338 u339 u340 u341 u342 u343 u344 u345 u346 u347 u348 u349 u350 u351 u352 u353 u354 u355 u356 u357 u358 u359 u360 u361 u362 u363 u364 u365 u366 u367 u368 u369 u370 u371 u372 u373 u374 u375 u376 u377 u378 u379 u380 u381 u382 u383 u384 u385 u386 u387 u388 u389 u390 u391 u392 u393 u394 u395 u396 u397 u398 u399 u400 u401 u402 u403 u404 u405 u406 u407 u408 u409 u410 u411 u412 u413 u414 u415 u416 u417 u418 u419 u420 u421 u422 u423 u424 : Value) :
    Code.wp Tryz.prog (fromC Tryz.f5 30) (bodyPost Tryz.prog Tryz.f5 fun e w' => e = .returned (.bool true) ∧ Below w0.heap.size w0 w') ⟨#[u0, u1, u2, u3, u4, u5, .func (.func 19) #[] #[], .pointer (some ⟨q, 0, none⟩), u8, u9, u10, u11, u12, .string kOne, u14, u15, u16, u17, u18, .string kNone, u20, u21, u22, u23, u24, u25, u26, u27, u28, u29, u30, u31, u32, u33, u34, u35, u36, u37, u38, u39, u40, u41, u42, u43, u44, u45, u46, u47, u48, u49, u50, u51, u52, u53, u54, u55, u56, u57, u58, u59, u60, u61, u62, u63, u64, u65, u66, u67, u68, u69, u70, u71, u72, u73, u74, u75, u76, u77, u78, u79, u80, u81, u82, u83, u84, u85, u86, u87, u88, u89, u90, u91, u92, u93, u94, u95, u96, u97, u98, u99, u100, u101, u102, u103, u104, u105, u106, u107, u108, u109, u110, u111, u112, u113, u114, u115, u116, u117, u118, u119, u120, u121, u122, u123, u124, u125, u126, u127, u128, u129, u130, u131, u132, u133, u134, u135, u136, u137, u138, u139, u140, u141, u142, u143, u144, u145, u146, u147, u148, u149, u150, u151, u152, u153, u154, u155, u156, u157, u158, u159, u160, u161, u162, u163, u164, u165, u166, u167, u168, u169, u170, u171, u172, u173, u174, u175, u176, u177, u178, u179, u180, u181, u182, u183, u184, u185, u186, u187, u188, u189, u190, u191, u192, u193, u194, u195, u196, u197, u198, u199, u200, u201, u202, u203, u204, u205, u206, u207, u208, u209, u210, u211, u212, u213, u214, u215, u216, u217, u218, u219, u220, u221, u222, u223, u224, u225, u226, u227, u228, u229, u230, u231, u232, u233, u234, u235, u236, u237, u238, u239, u240, u241, u242, u243, u244, u245, u246, u247, u248, u249, u250, u251, u252, u253, u254, u255, u256, u257, u258, u259, u260, u261, u262, u263, u264, u265, u266, u267, u268, u269, u270, u271, u272, u273, u274, u275, u276, u277, u278, u279, u280, u281, u282, u283, u284, u285, u286, u287, u288, u289, u290, u291, u292, u293, u294, u295, u296, u297, u298, u299, u300, u301, u302, u303, u304, u305, u306, u307, u308, u309, u310, u311, u312, u313, u314, u315, u316, u317, u318, u319, u320, u321, u322, u323, u324, u325, u326, u327, u328, u329, u330, u331, u332, u333, u334, u335, u336, u337, u338, u339, u340, u341, u342, u343, u344, u345, u346, u347, u348, u349, u350, u351, u352, u353, u354, u355, u356, u357, u358, u359, u360, u361, u362, u363, u364, u365, u366, u367, u368, u369, u370, u371, u372, u373, u374, u375, u376, u377, u378, u379, u380, u381, u382, u383, u384, u385, u386, u387, u388, u389, u390, u391, u392, u393, u394, u395, u396, u397, u398, u399, u400, u401, u402, u403, u404, u405, u406, u407, u408, u409, u410, u411, u412, u413, u414, u415, u416, u417, u418, u419, u420, u421, u422, u423, u424], []⟩ w1 := by
  unfold fromC
  conv => arg 2; whnf
  have zN := kNone_size
  have zP := kPath_size
  have zW := kWhole_size
  have z1 := kOne_size
  have zM := sM_size
  have zR := sRs_size
  have hW : kPath ++ sM ++ kOne ++ sRs = kWhole := rfl
  have z120 : (⟨#[120]⟩ : ByteArray).size = 1 := rfl
  have z_tE2 : tE2.size ≤ 1000 := by decide +kernel
  have z_tE1 : tE1.size ≤ 1000 := by decide +kernel
  have z_tM : tM.size ≤ 1000 := by decide +kernel
  have z_t13 : t13.size ≤ 1000 := by decide +kernel
  have z_tMn : tMn.size ≤ 1000 := by decide +kernel
  have z_tEn : tEn.size ≤ 1000 := by decide +kernel
  have z_tRq : tRq.size ≤ 1000 := by decide +kernel
  have z_tRR : tRR.size ≤ 1000 := by decide +kernel
  have z_tS8 : tS8.size ≤ 1000 := by decide +kernel
  have z_tS1 : tS1.size ≤ 1000 := by decide +kernel
  have z_tS2 : tS2.size ≤ 1000 := by decide +kernel
  have z_tS3 : tS3.size ≤ 1000 := by decide +kernel
  go_wp2_with fail
  refine (c_kPath w1).mono ?_
  rintro e w2 ⟨rfl, hb2⟩
  have HK2 := hide (HK1.out.keep hb2)
  clear HK1 hb2
  go_wp2_with fail
  refine (c_sM w2).mono ?_
  rintro e w3 ⟨rfl, hb3⟩
  have HK3 := hide (HK2.out.keep hb3)
  clear HK2 hb3
  go_wp2_with fail
  refine (c_sRs w3).mono ?_
  rintro e w4 ⟨rfl, hb4⟩
  have HK4 := hide (HK3.out.keep hb4)
  clear HK3 hb4
  go_upto_region 32 with fail
  go_cut [325, 326, 327] from 228 to 327 (fun v325 v326 v327 wc => ∃ g, v325 = .slice (some ⟨g, 0, none⟩) 14 14 ∧ v326 = .int .i64 14 ∧ v327 = .int .i64 0 ∧ Hid (TabQ wc g) ∧ Hid (KP w0 wc q b kS))
  case first =>
    go_wp2_with fail
    refine (c_tE2 w4).mono ?_
    rintro e w5 ⟨rfl, hb5⟩
    have HK5 := hide (HK4.out.keep hb5)
    clear HK4 hb5
    go_wp2_with fail
    refine (c_tE1 w5).mono ?_
    rintro e w6 ⟨rfl, hb6⟩
    have HK6 := hide (HK5.out.keep hb6)
    clear HK5 hb6
    go_wp2_with fail
    refine (c_tM w6).mono ?_
    rintro e w7 ⟨rfl, hb7⟩
    have HK7 := hide (HK6.out.keep hb7)
    clear HK6 hb7
    go_wp2_with fail
    refine (c_t13 w7).mono ?_
    rintro e w8 ⟨rfl, hb8⟩
    have HK8 := hide (HK7.out.keep hb8)
    clear HK7 hb8
    go_wp2_with fail
    refine (c_tMn w8).mono ?_
    rintro e w9 ⟨rfl, hb9⟩
    have HK9 := hide (HK8.out.keep hb9)
    clear HK8 hb9
    go_wp2_with fail
    refine (c_tEn w9).mono ?_
    rintro e w10 ⟨rfl, hb10⟩
    have HK10 := hide (HK9.out.keep hb10)
    clear HK9 hb10
    go_wp2_with fail
    refine (c_tRq w10).mono ?_
    rintro e w11 ⟨rfl, hb11⟩
    have HK11 := hide (HK10.out.keep hb11)
    clear HK10 hb11
    go_wp2_with fail
    refine (c_tRR w11).mono ?_
    rintro e w12 ⟨rfl, hb12⟩
    have HK12 := hide (HK11.out.keep hb12)
    clear HK11 hb12
    go_wp2_with fail
    refine (c_tS8 w12).mono ?_
    rintro e w13 ⟨rfl, hb13⟩
    have HK13 := hide (HK12.out.keep hb13)
    clear HK12 hb13
    go_wp2_with fail
    refine (narSum_any kOne w13 (by rw [kOne_size]; omega)).mono ?_
    rintro e w14 ⟨rfl, hb14⟩
    have HK14 := hide (HK13.out.keep hb14)
    clear HK13 hb14
    go_wp2_with fail
    refine (c_tS1 w14).mono ?_
    rintro e w15 ⟨rfl, hb15⟩
    have HK15 := hide (HK14.out.keep hb15)
    clear HK14 hb15
    go_wp2_with fail
    refine (narSum_any kOne w15 (by rw [kOne_size]; omega)).mono ?_
    rintro e w16 ⟨rfl, hb16⟩
    have HK16 := hide (HK15.out.keep hb16)
    clear HK15 hb16
    go_wp2_with fail
    refine (c_tS2 w16).mono ?_
    rintro e w17 ⟨rfl, hb17⟩
    have HK17 := hide (HK16.out.keep hb17)
    clear HK16 hb17
    go_wp2_with fail
    refine (narSum_any kOne w17 (by rw [kOne_size]; omega)).mono ?_
    rintro e w18 ⟨rfl, hb18⟩
    have HK18 := hide (HK17.out.keep hb18)
    clear HK17 hb18
    go_wp2_with fail
    refine (c_tS3 w18).mono ?_
    rintro e w19 ⟨rfl, hb19⟩
    have HK19 := hide (HK18.out.keep hb19)
    clear HK18 hb19
    go_wp2
    go_meet
    exact ⟨w19.heap.size, rfl, rfl, rfl, hide (tabQ_laid w19), hide (HK19.out.alloc _)⟩
  case rest =>
  obtain ⟨g, rfl, rfl, rfl, HT3, HK3⟩ := hcut
  generalize wc = w3 at HT3 HK3 ⊢
  clear zP zW z1 zM zR hW z120 z_tE2 z_tE1 z_tM z_t13 z_tMn z_tEn z_tRq z_tRR z_tS8 z_tS1 z_tS2 z_tS3 HK4
  go_wp2_with fail
  go_loopw [23, 24, 25, 26, 27, 327] (fun _ _ _ _ _ v327 wr => ∃ k : Nat, k ≤ 14 ∧ v327 = .int .i64 (k : Nat) ∧ Hid (KP w0 wr q b kS) ∧ Hid (TabQ wr g)) (fun _ _ _ _ _ v327 _ => 14 - (intOf v327).toNat)
  case atStart => exact ⟨0, by omega, rfl, HK3, HT3⟩
  case round =>
    obtain ⟨k, hk, rfl, HK2, HT2⟩ := hrel
    clear HK3 HT3
    by_cases hlt : k < 14
    · have hltz : (k : Int) < 14 := by omega
      obtain ⟨X, ek, nk, ad, T, hrow, himp, hne, hXs⟩ := known_row k hlt
      obtain ⟨c0, c1, c2⟩ := HT2.out.2 k hlt
      rw [hrow, Nat.mul_comm] at c0 c1 c2
      simp only at c0 c1 c2
      have HIM := hide himp
      have HNE := hide hne
      clear hrow himp hne
      go_wp2_with fail
      obtain ⟨a0, a1, a2⟩ := three_newG wr (.string X) (.int .i64 ek) (.int .i64 (nk : Nat)) 56
      have hA := (Below.refl _ wr).alloc (Nat.le_refl _) (.cells #[.string X, .int .i64 ek, .int .i64 (nk : Nat)] 56)
      have HKW := hide (HK2.out.keep hA)
      have HTW := hide (HT2.out.below hA)
      clear hA c0 c1 c2 HK2 HT2
      generalize wr.alloc (.cells #[.string X, .int .i64 ek, .int .i64 (nk : Nat)] 56) = W1 at a0 a1 a2 HKW HTW ⊢
      generalize wr.heap.size = g1 at a0 a1 a2 ⊢
      refine (NewStore_any W1).mono ?_
      rintro e w5 ⟨rfl, hY, hb5⟩
      have b0 := cellBG hb5 a0
      have cI : Hid (Calls Tryz.prog 11 #[.pointer (some ⟨W1.heap.size + 1, 0, none⟩), .slice (some ⟨w5.heap.size, 0, none⟩) 1 1] (w5.alloc (.cells #[.string X] 9)) fun e w' => ∃ a c, e = .returned (.tuple #[.slice a ad.length c, .int .i64 ek, .int .i64 (nk : Nat)]) ∧ NStF (fun _ => True) w' (W1.heap.size + 1) W1.heap.size T ∧ Below W1.heap.size W1 w') := hide (by
        have hA := (Below.refl _ w5).alloc (Nat.le_refl _) (.cells #[.string X] 9)
        have hB := hb5.trans (hA.mono hb5.size)
        have hXl : X.data.toList.length = X.size := by simp
        have hN := nst_new hY
        refine (imp_any (w0 := W1) (Nat.le_refl _) (by omega) (⟨block_keep _ hN.1, hN.2.below hA⟩ : NStF (fun _ => True) (w5.alloc (.cells #[.string X] 9)) (W1.heap.size + 1) W1.heap.size []) (HKW.out.keep hB).tabs (one_sliceS w5 X) (by simp) (by simp [joinB]; omega) (fun e he => by cases he) (by simp) (show importF [] (joinB [X]) = ((ad, ek, nk), T) by rw [show joinB [X] = X.data.toList by simp [joinB]]; exact HIM.out)).mono ?_
        rintro e w' ⟨a, c, rfl, _, h2, h3⟩
        exact ⟨a, c, rfl, h2, hB.trans h3⟩)
      clear hY hb5
      go_wp2_with fail
      refine cI.out.mono ?_
      rintro e w6 ⟨a6, c6, rfl, hY6, hb6⟩
      have d1 := cellBG hb6 a1
      have d2 := cellBG hb6 a2
      have HK6 := hide (HKW.out.keep hb6)
      have HT6 := hide (HTW.out.below hb6)
      have HY6 := hide hY6
      clear hY6 hb6 cI HKW HTW a0 a1 a2 b0
      by_cases he : ek = 0
      · subst he
        clear HY6
        go_wp2
        go_roundw
        case rel => exact ⟨k + 1, by omega, by go_num, HK6, HT6⟩
        case measure => simp [intOf]; omega
      · obtain ⟨rfl, rfl⟩ := HNE.out he
        have cQ : Hid (Calls Tryz.prog 12 #[.pointer (some ⟨W1.heap.size + 1, 0, none⟩)] w6 fun e w' => ∃ a c, e = .returned (.slice a 0 c) ∧ Below w6.heap.size w6 w') := hide (by
          refine (narPaths_any _ _ _ w6 ⟨HY6.out.1, HY6.out.2.st⟩ List.Pairwise.nil (by simp)).mono ?_
          rintro e w' ⟨v, rfl, h1, h2⟩
          obtain ⟨a, c, rfl, _⟩ := own_slice h1
          exact ⟨a, c, rfl, h2⟩)
        have heb : (ek == 0) = false := beq_eq_false_iff_ne.2 he
        clear HY6 HIM HNE
        simp only [List.length_nil]
        go_wp2_with fail
        refine cQ.out.mono ?_
        rintro e w7 ⟨a7, c7, rfl, hb7⟩
        have HK7 := hide (HK6.out.keep hb7)
        have HT7 := hide (HT6.out.below hb7)
        clear HK6 HT6 hb7 cQ
        go_wp2
        go_roundw
        case rel => exact ⟨k + 1, by omega, by go_num, HK7, HT7⟩
        case measure => simp [intOf]; omega
    · have hltz : ¬ (k : Int) < 14 := by omega
      go_upto_if 328 with fail
      iterate 6 go_step
      exact known40 w0 wr q b HK2 _ _ _ _ _ _ _ _ _ _ _ _ _ _ _ _ _ _ _ _ _ _ _ _ _ _ _ _ _ _ _ _ _ _ _ _ _ _ _ _ _ _ _ _ _ _ _ _ _ _ _ _ _ _ _ _ _ _ _ _ _ _ _ _ _ _ _ _ _ _ _ _ _ _ _ _ _ _ _ _ _ _ _ _ _ _ _ _ _ _ _ _ _ _ _ _ _ _ _ _ _ _ _ _ _ _ _ _ _ _ _ _ _ _ _ _ _ _ _ _ _ _ _ _ _ _ _ _ _ _ _ _ _ _ _ _ _ _ _ _ _ _ _ _ _ _ _ _ _ _ _ _ _ _ _ _ _ _ _ _ _ _ _ _ _ _ _ _ _ _ _ _ _ _ _ _ _ _ _ _ _ _ _ _ _ _ _ _ _ _ _ _ _ _ _ _ _ _ _ _ _ _ _ _ _ _ _ _ _ _ _ _ _ _ _ _ _ _ _ _ _ _ _ _ _ _ _ _ _ _ _ _ _ _ _ _ _ _ _ _ _ _ _ _ _ _ _ _ _ _ _ _ _ _ _ _ _ _ _ _ _ _ _ _ _ _ _ _ _ _ _ _ _ _ _ _ _ _ _ _ _ _ _ _ _ _ _ _ _ _ _ _ _ _ _ _ _ _ _ _ _ _ _ _ _ _ _ _ _ _ _ _ _ _ _ _ _ _ _ _ _ _ _ _ _ _ _ _ _ _ _ _ _ _ _ _ _ _ _ _ _ _ _ _ _ _ _ _ _ _ _ _ _ _ _ _ _ _ _ _ _ _ _ _ _ _ _ _ _ _ _ _ _ _ _ _ _ _ _ _ _ _ _ _ _ _ _ _ _ _ _ _ _ _ _ _ _ _ _ _ _ _ _ _ _ _ _ _ _ _ _ _ _ _ _ _ _ _ _ _ _ _
end Go.Proofs.YticfcjmlphhpgabGreatDoor
