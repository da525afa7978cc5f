import Derived.Test.YticfcjmlphhpgabGreatDoorD03
import Derived.Deep.CutBlock
/-
  Known: what paths lead to; exports.
-/
namespace Go.Proofs.YticfcjmlphhpgabGreatDoor
open Go.RowKit Go.Maps

def okRB (S : List Ent) : Bool := few S
theorem kS_ok : OkE kS := by
  have h : ∀ k, k ≤ 15 → OkE (kSt k) := by
    intro k
    induction k with
    | zero => exact fun _ => OkE.nil
    | succ k ih => exact fun hk => by rw [kSt_succ k (by omega)]; exact (ih (by omega)).insert _
  exact h 15 (by omega)
theorem kOne_eq : (kOne.toList == kOne.toList) = true := by simp
section
variable {w0 w : World} {q b : Nat}
theorem KP.closure (h : KP w0 w q b kS) : Calls Tryz.prog 8 #[.pointer (some ⟨q, 0, none⟩), .slice (some ⟨w.heap.size, 0, none⟩) 1 1] (w.alloc (.cells #[.string ⟨#[97]⟩] 9)) fun e w' => ∃ g o c, e = .returned (.tuple #[.slice (some ⟨g, o, none⟩) 4 c, .int .i64 0]) ∧ w'.cell? ⟨g, o, none⟩ = some (.string bM) ∧ w'.cell? ⟨g, o + 1, none⟩ = some (.string bB) ∧ w'.cell? ⟨g, o + 2, none⟩ = some (.string bZ) ∧ w'.cell? ⟨g, o + 3, none⟩ = some (.string bA) ∧ KP w0 w' q b kS := by
  have hA := h.alloc (.cells #[.string bA] 9)
  refine (narClosure_any q b kS _ [bA] _ hA.nst kS_ok.ok.closed (strs_new w [bA]) (by simp) (fun x hx => by simp at hx; subst hx; decide)).mono ?_
  rintro e w' ⟨v, out, rfl, h1, h2, h3⟩
  obtain rfl := h2.uniq kS_clos
  obtain ⟨a, c, rfl, _, h5⟩ := own_strs h1
  obtain ⟨g, o, rfl, _, h6⟩ := h5 (by decide)
  have hl : lackR kS [bA] = false := by decide +kernel
  rw [hl]
  exact ⟨g, o, c, rfl, h6 0 (by decide), h6 1 (by decide), h6 2 (by decide), h6 3 (by decide), hA.keep h3⟩
theorem KP.export2 (h : KP w0 w q b kS) : Calls Tryz.prog 9 #[.pointer (some ⟨q, 0, none⟩), .slice (some ⟨w.heap.size, 0, none⟩) 2 2] (w.alloc (.cells #[.string ⟨#[98]⟩, .string ⟨#[109]⟩] 9)) fun e w' => e = .returned (.tuple #[.string (sP ++ kOne ++ sQ ++ kTwo ++ sR), .int .i64 0]) ∧ KP w0 w' q b kS := by
  have hA := h.alloc (.cells #[.string bB, .string bM] 9)
  refine (narExport_any q b kS _ [bB, bM] _ hA.nst kS_ok.ok.closed (strs_new w [bB, bM]) (by simp) (fun x hx => by simp at hx; rcases hx with rfl | rfl <;> decide) (OutOk.of kS_ok _)).mono ?_
  rintro e w' ⟨out, h1, rfl, h3⟩
  obtain rfl := h1.uniq kS_clos2
  have hl : lackR kS [bB, bM] = false := by decide +kernel
  rw [hl, known_exp]
  exact ⟨rfl, hA.keep h3⟩
theorem KP.export0 (h : KP w0 w q b kS) : Calls Tryz.prog 9 #[.pointer (some ⟨q, 0, none⟩), .slice none 0 0] w fun e w' => e = .returned (.tuple #[.string kNone, .int .i64 0]) ∧ KP w0 w' q b kS := by
  refine (narExport_any q b kS _ [] _ h.nst kS_ok.ok.closed (strs_nil w) (by simp) (fun x hx => by cases hx) (OutOk.of kS_ok _)).mono ?_
  rintro e w' ⟨out, h1, rfl, h3⟩
  obtain rfl := h1.uniq kS_clos0
  have hl : lackR kS [] = false := by decide +kernel
  rw [hl, known_exp0]
  exact ⟨rfl, h.keep h3⟩
theorem KP.pack (h : KP w0 w q b kS) (d : ByteArray) (hd : d.size ≤ 100) : Calls Tryz.prog 17 #[.slice (some ⟨w.heap.size, 0, none⟩) 1 1] (w.alloc (.cells #[.string ⟨#[]⟩, .int .i64 1, .string d] 43)) fun e w' => e = .returned (.tuple #[.string (packB (leafN d)), .int .i64 0, .int .i64 0]) ∧ KP w0 w' q b kS := by
  have hA := h.alloc (.cells #[.string ⟨#[]⟩, .int .i64 1, .string d] 43)
  refine (narPack_any _ (leafN d) _ hA.tabs (leaf_blk d (block_new w _)) (leaf_small d (by omega)) (leaf_first d hd)).mono ?_
  rintro e w' ⟨rfl, h3⟩
  exact ⟨rfl, hA.keep h3⟩
theorem KP.packM (h : KP w0 w q b kS) : Calls Tryz.prog 17 #[.slice (some ⟨w.heap.size, 0, none⟩) 1 1] (w.alloc (.cells #[.string ⟨#[]⟩, .int .i64 1, .string ⟨#[109]⟩] 43)) fun e w' => e = .returned (.tuple #[.string kOne, .int .i64 0, .int .i64 0]) ∧ KP w0 w' q b kS := h.pack bM (by decide)
theorem KP.packT (h : KP w0 w q b kS) : Calls Tryz.prog 17 #[.slice (some ⟨w.heap.size, 0, none⟩) 1 1] (w.alloc (.cells #[.string ⟨#[]⟩, .int .i64 1, .string ⟨#[98]⟩] 43)) fun e w' => e = .returned (.tuple #[.string kTwo, .int .i64 0, .int .i64 0]) ∧ KP w0 w' q b kS := h.pack bB (by decide)
end
theorem sP_size : sP.size = 48 := by decide +kernel
theorem sQ_size : sQ.size = 112 := by decide +kernel
theorem sR_size : sR.size = 96 := by decide +kernel
set_option maxRecDepth 20000 in
set_option maxHeartbeats 8000000 in
theorem known19 (w0 w : World) (q b : Nat) (HK : Hid (KP w0 w q b kS)) (u0 u1 u2 u3 u4 u5 u8 u9 u10 u11 u12 u13 u14 u15 u16 u17 u18 u19 u20 u21 u22 u23 u24 u25 u26 u27 u28 u29 u30 u31 u32 u33 u34 u35 u36 u37 u38 u39 u40 u41 u42 u43 u44 u45 u46 u47 u48 u49 u50 u51 u52 u53 u54 u55 u56 u57 u58 u59 u60 u61 u62 u63 u64 u65 u66 u67 u68 u69 u70 u71 u72 u73 u74 u75 u76 u77 u78 u79 u80 u81 u82 u83 u84 u85 u86 u87 u88 u89 u90 u91 u92 u93 u94 u95 u96 u97 u98 u99 u100 u101 u102 u103 u104 u105 u106 u107 u108 u109 u110 u111 u112 u113 u114 u115 u116 u117 u118 u119 u120 u121 u122 u123 u124 u125 u126 u127 u128 u129 u130 u131 u132 u133 u134 u135 u136 u137 u138 u139 u140 u141 u142 u143 u144 u145 u146 u147 u148 u149 u150 u151 u152 u153 u154 u155 u156 u157 u158 u159 u160 u161 u162 u163 u164 u165 u166 u167 u168 u169 u170 u171 u172 u173 u174 u175 u176 u177 u178 u179 u180 u181 u182 u183 u184 u185 u186 u187 u188 u189 u190 u191 u192 u193 u194 u195 u196 u197 u198 u199 u200 u201 u202 u203 u204 u205 u206 u207 u208 u209 u210 u211 u212 u213 u214 u215 u216 u217 u218 u219 u220 u221 u222 u223 u224 u225 u226 u227 u228 u229 u230 u231 u232 u233 u234 u235 u236 u237 u238 u239 u240 u241 u242 u243 u244 u245 u246 u247 u248 u249 u250 u251 u252 u253 u254 u255 u256 u257 u258 u259 u260 u261 u262 u263 u264 u265 u266 u267 u268 u269 u270 u271 u272 u273 u274 u275 u276 u277 u278 u279 u280 u281 u282 u283 u284 u285 u286 u287 u288 u289 u290 u291 u292 u293 u294 u295 u296 u297 u298 u299 u300 u301 u302 u303 u304 u305 u306 u307 u308 u309 u310 u311 u312 u313 u314 u315 u316 u317 u318 u319 u320 u321 u322 u323 u324 u325 u326 u327 u328 u329 u330 u331 u332 u333 u334 u335 u336 u337 u338 u339 u340 u341 u342 u343 u344 u345 u346 u347 u348 u349 u350 u351 u352 u353 u354 u355 u356 u357 u358 u359 u360 u361 u362 u363 u364 u365 u366 u367 u368 u369 u370 u371 u372 u373 u374 u375 u376 u377 u378 u379 u380 u381 u382 u383 u384 u385 u386 u387 u388 u389 u390 u391 u392 u393 u394 u395 u396 u397 u398 u399 u400 u401 u402 u403 u404 u405 u406 u407 u408 u409 u410 u411 u412 u413 u414 u415 u416 u417 u418 u419 u420 u421 u422 u423 u424 : Value) :
    Code.wp Tryz.prog (fromC Tryz.f5 19) (bodyPost Tryz.prog Tryz.f5 fun e w' => e = .returned (.bool true) ∧ Below w0.heap.size w0 w') ⟨#[u0, u1, u2, u3, u4, u5, .func (.func 19) #[] #[], .pointer (some ⟨q, 0, none⟩), u8, u9, u10, u11, u12, u13, u14, u15, u16, u17, u18, u19, u20, u21, u22, u23, u24, u25, u26, u27, u28, u29, u30, u31, u32, u33, u34, u35, u36, u37, u38, u39, u40, u41, u42, u43, u44, u45, u46, u47, u48, u49, u50, u51, u52, u53, u54, u55, u56, u57, u58, u59, u60, u61, u62, u63, u64, u65, u66, u67, u68, u69, u70, u71, u72, u73, u74, u75, u76, u77, u78, u79, u80, u81, u82, u83, u84, u85, u86, u87, u88, u89, u90, u91, u92, u93, u94, u95, u96, u97, u98, u99, u100, u101, u102, u103, u104, u105, u106, u107, u108, u109, u110, u111, u112, u113, u114, u115, u116, u117, u118, u119, u120, u121, u122, u123, u124, u125, u126, u127, u128, u129, u130, u131, u132, u133, u134, u135, u136, u137, u138, u139, u140, u141, u142, u143, u144, u145, u146, u147, u148, u149, u150, u151, u152, u153, u154, u155, u156, u157, u158, u159, u160, u161, u162, u163, u164, u165, u166, u167, u168, u169, u170, u171, u172, u173, u174, u175, u176, u177, u178, u179, u180, u181, u182, u183, u184, u185, u186, u187, u188, u189, u190, u191, u192, u193, u194, u195, u196, u197, u198, u199, u200, u201, u202, u203, u204, u205, u206, u207, u208, u209, u210, u211, u212, u213, u214, u215, u216, u217, u218, u219, u220, u221, u222, u223, u224, u225, u226, u227, u228, u229, u230, u231, u232, u233, u234, u235, u236, u237, u238, u239, u240, u241, u242, u243, u244, u245, u246, u247, u248, u249, u250, u251, u252, u253, u254, u255, u256, u257, u258, u259, u260, u261, u262, u263, u264, u265, u266, u267, u268, u269, u270, u271, u272, u273, u274, u275, u276, u277, u278, u279, u280, u281, u282, u283, u284, u285, u286, u287, u288, u289, u290, u291, u292, u293, u294, u295, u296, u297, u298, u299, u300, u301, u302, u303, u304, u305, u306, u307, u308, u309, u310, u311, u312, u313, u314, u315, u316, u317, u318, u319, u320, u321, u322, u323, u324, u325, u326, u327, u328, u329, u330, u331, u332, u333, u334, u335, u336, u337, u338, u339, u340, u341, u342, u343, u344, u345, u346, u347, u348, u349, u350, u351, u352, u353, u354, u355, u356, u357, u358, u359, u360, u361, u362, u363, u364, u365, u366, u367, u368, u369, u370, u371, u372, u373, u374, u375, u376, u377, u378, u379, u380, u381, u382, u383, u384, u385, u386, u387, u388, u389, u390, u391, u392, u393, u394, u395, u396, u397, u398, u399, u400, u401, u402, u403, u404, u405, u406, u407, u408, u409, u410, u411, u412, u413, u414, u415, u416, u417, u418, u419, u420, u421, u422, u423, u424], []⟩ w := by
  unfold fromC
  conv => arg 2; whnf
  have h1 : (bM.toList == [109]) = true := eqb_of rfl
  have h2 : (bB.toList == [98]) = true := eqb_of rfl
  have h3 : (bZ.toList == [122]) = true := eqb_of rfl
  have h4 : (bA.toList == [97]) = true := eqb_of rfl
  go_wp2_with fail
  refine HK.out.closure.mono ?_
  rintro e w1 ⟨g, o, c, rfl, e1, e2, e3, e4, hK1⟩
  have HK1 := hide hK1
  clear hK1 HK
  have cE := hide HK1.out.export2
  go_wp2_with fail
  refine cE.out.mono ?_
  rintro e w2 ⟨rfl, hK2⟩
  have HK2 := hide hK2
  clear hK2 HK1 cE e1 e2 e3 e4 h1 h2 h3 h4
  have zP := sP_size
  have zQ := sQ_size
  have zR := sR_size
  have z1 := kOne_size
  have z2 := kTwo_size
  go_wp2_with fail
  refine (leaf_any ⟨#[109]⟩ _).mono ?_
  rintro e w3 ⟨rfl, rfl⟩
  have cP := hide HK2.out.packM
  go_wp2_with fail
  refine cP.out.mono ?_
  rintro e w3 ⟨rfl, hK3⟩
  have HK3 := hide hK3
  clear hK3 HK2 cP
  have cP := hide HK3.out.packT
  go_wp2_with fail
  refine (leaf_any ⟨#[98]⟩ _).mono ?_
  rintro e w4 ⟨rfl, rfl⟩
  go_wp2_with fail
  refine cP.out.mono ?_
  rintro e w4 ⟨rfl, hK4⟩
  have HK4 := hide hK4
  clear hK4 HK3 cP
  go_wp2_with fail
  refine (c_sP w4).mono ?_
  rintro e w5 ⟨rfl, hb5⟩
  have HK5 := hide (HK4.out.keep hb5)
  clear HK4 hb5
  go_wp2_with fail
  refine (narSum_any kOne w5 (by rw [kOne_size]; omega)).mono ?_
  rintro e w6 ⟨rfl, hb6⟩
  have HK6 := hide (HK5.out.keep hb6)
  clear HK5 hb6
  go_wp2_with fail
  refine (c_sQ w6).mono ?_
  rintro e w7 ⟨rfl, hb7⟩
  have HK7 := hide (HK6.out.keep hb7)
  clear HK6 hb7
  go_wp2_with fail
  refine (narSum_any kTwo w7 (by rw [kTwo_size]; omega)).mono ?_
  rintro e w8 ⟨rfl, hb8⟩
  have HK8 := hide (HK7.out.keep hb8)
  clear HK7 hb8
  have hX : ((sP ++ kOne ++ sQ ++ kTwo ++ sR).toList == (sP ++ kOne ++ sQ ++ kTwo ++ sR).toList) = true := by simp
  go_wp2_with fail
  refine (c_sR w8).mono ?_
  rintro e w9 ⟨rfl, hb9⟩
  have HK9 := hide (HK8.out.keep hb9)
  clear HK8 hb9
  have c0 := hide HK9.out.export0
  go_wp2_with fail
  refine c0.out.mono ?_
  rintro e w10 ⟨rfl, hK10⟩
  have HK10 := hide hK10
  clear HK9 hK10 c0 hX zP zQ zR
  have h0 : (kNone.toList == kNone.toList) = true := by simp
  go_wp2_with fail
  refine (c_kNone w10).mono ?_
  rintro e w11 ⟨rfl, hb11⟩
  have HK11 := hide (HK10.out.keep hb11)
  clear HK10 hb11
  go_upto_if 227 with fail
  iterate 4 go_step
  trace_state
  exact known30 w0 w11 q b HK11 _ _ _ _ _ _ _ _ _ _ _ _ _ _ _ _ _ _ _ _ _ _ _ _ _ _ _ _ _ _ _ _ _ _ _ _ _ _ _ _ _ _ _ _ _ _ _ _ _ _ _ _ _ _ _ _ _ _ _ _ _ _ _ _ _ _ _ _ _ _ _ _ _ _ _ _ _ _ _ _ _ _ _ _ _ _ _ _ _ _ _ _ _ _ _ _ _ _ _ _ _ _ _ _ _ _ _ _ _ _ _ _ _ _ _ _ _ _ _ _ _ _ _ _ _ _ _ _ _ _ _ _ _ _ _ _ _ _ _ _ _ _ _ _ _ _ _ _ _ _ _ _ _ _ _ _ _ _ _ _ _ _ _ _ _ _ _ _ _ _ _ _ _ _ _ _ _ _ _ _ _ _ _ _ _ _ _ _ _ _ _ _ _ _ _ _ _ _ _ _ _ _ _ _ _ _ _ _ _ _ _ _ _ _ _ _ _ _ _ _ _ _ _ _ _ _ _ _ _ _ _ _ _ _ _ _ _ _ _ _ _ _ _ _ _ _ _ _ _ _ _ _ _ _ _ _ _ _ _ _ _ _ _ _ _ _ _ _ _ _ _ _ _ _ _ _ _ _ _ _ _ _ _ _ _ _ _ _ _ _ _ _ _ _ _ _ _ _ _ _ _ _ _ _ _ _ _ _ _ _ _ _ _ _ _ _ _ _ _ _ _ _ _ _ _ _ _ _ _ _ _ _ _ _ _ _ _ _ _ _ _ _ _ _ _ _ _ _ _ _ _ _ _ _ _ _ _ _ _ _ _ _ _ _ _ _ _ _ _ _ _ _ _ _ _ _ _ _ _ _ _ _ _ _ _ _ _ _ _ _ _ _ _ _ _ _ _ _ _ _ _ _ _ _ _ _ _ _ _ _ _ _ _ _ _ _ _ _ _ _ _
end Go.Proofs.YticfcjmlphhpgabGreatDoor
