import Derived.Test.YticfcjmlphhpgaaGreatDoorA26
import Derived.Test.YticfcjmlphhpgaaGreatDoorA30
import Derived.Test.YticfcjmlphhpgaaGreatDoorA31
import Derived.Test.YticfcjmlphhpgaaGreatDoorA35
set_option maxRecDepth 20000
set_option maxHeartbeats 8000000
namespace Go.Proofs.YticfcjmlphhpgaaGreatDoor
open Go.RowKit
def refOk (st:IS):Prop:=riseL st.refs=true∧∀r∈st.refs,lackS st.all (lastS st.came) r=false
structure IOk (st:IS):Prop where
 all:OkE st.all
 ref:live st.ph=true→refOk st
theorem lastS_size {l:List ByteArray} (h:∀p∈l,p.size≤12):(lastS l).size≤12:=by
 unfold lastS;rw[List.getD_eq_getElem?_getD];cases hg:l[l.length - 1]? with
 | none=>exact Nat.zero_le _
 | some x=>exact h x (List.mem_of_getElem? hg)
theorem IOk.step {st st':IS} {tot:Nat} (h:IOk st) (hi:IInv st tot) (hs:stepI st=.go st'):IOk st':=by
 have htv:=hi.tv;have hcp:=lastS_size hi.cp;unfold stepI at hs
 split at hs
 ·split at hs <;> cases hs
 ·unfold takenI at hs
  split at hs
  ·cases hs
  ·cases hs
  ·rename_i s rest n hcut
   split at hs
   ·cases hs
   ·rename_i st2 htk
    injection hs with hs
    subst hs;obtain ⟨l,pos,ph,all,came,added,refs,g⟩:=st;obtain ⟨ha,hr⟩:=h;have fin:IOk st2:=by
     cases ph with
     | done=>cases htk
     | head=>simp only[takeI]at htk;split at htk <;> first | (cases htk;done) | (injection htk with htk;subst htk;exact ⟨ha,fun e=>by cases e⟩)
     | ent=>
      simp only[takeI]at htk
      split at htk
      ·injection htk with htk;subst htk;exact ⟨ha,fun e=>by cases e⟩
      ·split at htk <;> first | (cases htk;done) | (injection htk with htk;subst htk;exact ⟨ha,fun e=>by cases e⟩)
     | path=>
      rw[takeI_path]at htk
      split at htk
      ·cases htk
      ·split at htk
       ·cases htk
       ·injection htk with htk;subst htk;exact ⟨ha,fun _=>⟨rfl,fun r hm=>by cases hm⟩⟩
     | refs=>
      simp only[takeI]at htk
      split at htk
      ·injection htk with htk;subst htk;exact ⟨ha,fun _=>hr rfl⟩
      ·split at htk
       ·injection htk with htk;subst htk;exact ⟨ha,fun _=>hr rfl⟩
       ·cases htk
     | ref=>
      rw[takeI_ref]at htk
      split at htk
      ·cases htk
      ·rename_i h1
       split at htk
       ·cases htk
       ·rename_i h2
        injection htk with htk
        subst htk;refine ⟨ha,fun _=>⟨eq_true_of_ne_false h1,fun r hm=>?_⟩⟩;rcases List.mem_append.1 hm with hm | hm
        ·exact (hr rfl).2 r hm
        ·rw[List.mem_singleton]at hm;subst hm;exact Bool.eq_false_iff.2 h2
     | sum=>
      rw[takeI_sum]at htk
      split at htk
      ·split at htk
       ·injection htk with htk
        subst htk;exact ⟨ha.put hcp htv (hr rfl).1 (hr rfl).2,fun e=>by cases e⟩
       ·cases htk
      ·cases htk
     | tree K=>
      cases K with
      | nil=>simp only[takeI]at htk;split at htk <;> first | (cases htk;done) | (injection htk with htk;subst htk;exact ⟨ha,fun _=>hr rfl⟩)
      | cons i K=>simp only[takeI]at htk;split at htk <;> first | (cases htk;done) | (injection htk with htk;subst htk;exact ⟨ha,fun _=>hr rfl⟩)
    exact ⟨fin.all,fin.ref⟩
theorem runI_ok:∀(f:Nat) (st:IS) (tot:Nat),tot≤1000000000→IInv st tot→IOk st→∀st',runG stepI f st=.ok st'→OkE st'.all
 | 0,st,_,_,_,h,st',e=>by
  simp only[runG]at e;injection e with e
  subst e;exact h.all
 | f+1,st,tot,ht,hi,h,st',e=>by
  simp only[runG]at e;cases hs:stepI st with
  | stop=>rw[hs]at e;injection e with e;subst e;exact h.all
  | fail e2 p=>rw[hs]at e;cases e
  | go st2=>rw[hs]at e;exact runI_ok f st2 tot ht (hi.step ht hs) (h.step hi hs) st' e
theorem OkE.import {S:List Ent} (h:OkE S) (s:Bs) (hs:s.length≤1000000000):OkE (importF S s).2:=by
 unfold importF;cases hr:feedI (is0 S) s with
 | bad e p=>exact h
 | ok st=>
  unfold impEnd;simp only
  split
  ·have h0:=(is0_inv (S:=S) (fun e he=>by have:=h.few e he;omega) h.ok.closed.few).1;have h1:=IInv.add h0 s;exact runI_ok _ _ _ (by omega) h1 ⟨h,fun e=>by cases e⟩ st hr
  ·exact h
theorem import_few {S:List Ent} (h:OkE S) (s:Bs) (hs:s.length≤1000000000):(importF S s).1.1.length≤s.length:=by
 have h0:=feedI_inv (is0_inv (S:=S) (fun e he=>by have:=h.few e he;omega) h.ok.closed.few) s (by omega);unfold importF;cases hr:feedI (is0 S) s with
 | bad e p=>exact Nat.zero_le _
 | ok st=>
  rw[hr]at h0;have h1:=h0.1.adl;have h2:=h0.1.sum;unfold impEnd;simp only
  split
  ·show st.added.length≤_;omega
  ·exact Nat.zero_le _
end Go.Proofs.YticfcjmlphhpgaaGreatDoor
namespace Go.Proofs.YticfcjmlphhpgaaGreatDoor
open Go.RowKit Go.Maps
theorem reg15_42 (wb ob g n cap i:Nat) (C:Int) (t:ByteArray) (w:World) (hi:i<n) (c1:w.cell? ⟨wb,1,none⟩=some (.slice (some ⟨g,0,none⟩) n cap)) (cC:w.cell? ⟨ob,2,none⟩=some (.int .i64 C)) (ct:w.cell? ⟨g,i,none⟩=some (.string t))
  (cK:∀V:World,Calls Tryz.prog 18 #[.int .i64 C,.int .i64 (n:Nat)] V fun e w'=>e=.returned (.int .i64 (i:Nat))∧w'=V) (u1 u2 u4 u5 u6 u7 u8 u9 u10 u11 u12 u13 u14 u15 u16 u17 u18 u19 u20 u21 u22 u23 u24 u25 u26 u27 u28 u29 u30 u31 u32 u33 u34 u35 u36 u37 u38 u39 u40 u41 u42 u43 u44 u45 u46 u47 u48 u49 u50 u51 u52 u53 u54 u55 u56 u57 u58 u59 u60 u61 u62 u63 u64 u65 u66 u67 u68 u69 u70 u71 u72 u73 u74 u75 u76 u77 u78 u79 u80 u81 u82 u83 u84 u85 u86 u87 u88 u89 u90 u91 u92 u93 u94 u95 u96 u97 u98 u99 u100 u101 u102 u103 u104 u105 u106 u107 u108 u109 u110 u111 u112 u113 u114 u115 u116 u117 u118 u119 u120 u121 u122 u123 u124 u125 u126 u127 u128 u129 u130 u131 u132 u133 u134 u135 u136 u137 u138 u139 u140 u141 u142 u143 u144 u145 u146 u147 u148 u149 u150 u151 u152 u153 u154 u155 u156 u157 u158 u159 u160 u161 u162 u163 u164 u165 u166 u167 u168 u169 u170 u171 u172 u173 u174 u175 u176 u177 u178 u179 u180 u181 u182 u183 u184 u185 u186 u187 u188 u189 u190 u191 u192 u193 u194 u195 u196 u197 u198 u199 u200 u201 u202 u203 u204 u205 u206 u207 u208 u209 u210 u211 u212 u213 u214 u215 u216 u217 u218 u219 u220 u221 u222 u223 u224 u225 u226 u227 u228 u229 u230 u231 u232 u233 u234 u235 u236 u237 u238 u239 u240 u241 u242 u243 u244 u245 u246 u247 u248 u249 u250 u251 u252 u253 u254 u255 u256 u257 u258 u259:Value) :
  Code.wp Tryz.prog (regC Tryz.f15 42) (Exit.then (fun a w'=>(∃v210 v211 v212 v213 v214 v215 v216 v217 v218 v219 v220 v221 v222 v223:Value,a=⟨#[.pointer (some ⟨wb,0,none⟩),u1,u2,.pointer (some ⟨ob,0,none⟩),u4,u5,u6,u7,u8,u9,u10,u11,u12,u13,u14,u15,u16,u17,u18,u19,u20,u21,.string t,u23,u24,u25,u26,u27,u28,u29,u30,u31,u32,u33,u34,u35,u36,u37,u38,u39,u40,u41,u42,u43,u44,u45,u46,u47,u48,u49,u50,u51,u52,u53,u54,u55,u56,u57,u58,u59,u60,u61,u62,u63,u64,u65,u66,u67,u68,u69,u70,u71,u72,u73,u74,u75,u76,u77,u78,u79,u80,u81,u82,u83,u84,u85,u86,u87,u88,u89,u90,u91,u92,u93,u94,u95,u96,u97,u98,u99,u100,u101,u102,u103,u104,u105,u106,u107,u108,u109,u110,u111,u112,u113,u114,u115,u116,u117,u118,u119,u120,u121,u122,u123,u124,u125,u126,u127,u128,u129,u130,u131,u132,u133,u134,u135,u136,u137,u138,u139,u140,u141,u142,u143,u144,u145,u146,u147,u148,u149,u150,u151,u152,u153,u154,u155,u156,u157,u158,u159,u160,u161,u162,u163,u164,u165,u166,u167,u168,u169,u170,u171,u172,u173,u174,u175,u176,u177,u178,u179,u180,u181,u182,u183,u184,u185,u186,u187,u188,u189,u190,u191,u192,u193,u194,u195,u196,u197,u198,u199,u200,u201,u202,u203,u204,u205,u206,u207,u208,u209,v210,v211,v212,v213,v214,v215,v216,v217,v218,v219,v220,v221,v222,v223,u224,u225,u226,u227,u228,u229,u230,u231,u232,u233,u234,u235,u236,u237,u238,u239,u240,u241,u242,u243,u244,u245,u246,u247,u248,u249,u250,u251,u252,u253,u254,u255,u256,u257,u258,u259],[]⟩)∧Below w.heap.size w w') (fun _ _ _=>False)) ⟨#[.pointer (some ⟨wb,0,none⟩),u1,u2,.pointer (some ⟨ob,0,none⟩),u4,u5,u6,u7,u8,u9,u10,u11,u12,u13,u14,u15,u16,u17,u18,u19,u20,u21,u22,u23,u24,u25,u26,u27,u28,u29,u30,u31,u32,u33,u34,u35,u36,u37,u38,u39,u40,u41,u42,u43,u44,u45,u46,u47,u48,u49,u50,u51,u52,u53,u54,u55,u56,u57,u58,u59,u60,u61,u62,u63,u64,u65,u66,u67,u68,u69,u70,u71,u72,u73,u74,u75,u76,u77,u78,u79,u80,u81,u82,u83,u84,u85,u86,u87,u88,u89,u90,u91,u92,u93,u94,u95,u96,u97,u98,u99,u100,u101,u102,u103,u104,u105,u106,u107,u108,u109,u110,u111,u112,u113,u114,u115,u116,u117,u118,u119,u120,u121,u122,u123,u124,u125,u126,u127,u128,u129,u130,u131,u132,u133,u134,u135,u136,u137,u138,u139,u140,u141,u142,u143,u144,u145,u146,u147,u148,u149,u150,u151,u152,u153,u154,u155,u156,u157,u158,u159,u160,u161,u162,u163,u164,u165,u166,u167,u168,u169,u170,u171,u172,u173,u174,u175,u176,u177,u178,u179,u180,u181,u182,u183,u184,u185,u186,u187,u188,u189,u190,u191,u192,u193,u194,u195,u196,u197,u198,u199,u200,u201,u202,u203,u204,u205,u206,u207,u208,u209,u210,u211,u212,u213,u214,u215,u216,u217,u218,u219,u220,u221,u222,u223,u224,u225,u226,u227,u228,u229,u230,u231,u232,u233,u234,u235,u236,u237,u238,u239,u240,u241,u242,u243,u244,u245,u246,u247,u248,u249,u250,u251,u252,u253,u254,u255,u256,u257,u258,u259],[]⟩ w:=by
 unfold regC
 conv=>arg 2;whnf
 have CK:=hide cK;have hiz:(0:Int)≤(i:Int):=by omega
 have hiz2:(i:Int)<(n:Int):=by omega
 clear cK
 go_region_held3 (fun w'=>w'.cell? ⟨wb,1,none⟩=some (.slice (some ⟨g,0,none⟩) n cap)∧w'.cell? ⟨ob,2,none⟩=some (.int .i64 C)∧w'.cell? ⟨g,i,none⟩=some (.string t)) (go_keep) (first
  | (go_at_call 18;refine (CK.out _).mono ?_;rintro e w1 ⟨rfl,rfl⟩))
 all_goals first
  | exact ⟨⟨_,_,_,_,_,_,_,_,_,_,_,_,_,_,rfl⟩,drewT (Below.refl _ w)⟩
  | exact ⟨⟨_,_,_,_,_,_,_,_,_,_,_,_,_,_,rfl⟩,drewB w⟩
  | exact ⟨⟨_,_,_,_,_,_,_,_,_,_,_,_,_,_,rfl⟩,Below.refl _ w⟩
theorem reg15_43 (ob pb q dn dc:Nat) (t:ByteArray) (da:Option Addr) (w:World) (p0:w.cell? ⟨pb,0,none⟩=some (.pointer (some ⟨q,0,none⟩))) (c7:w.cell? ⟨ob,7,none⟩=some (.slice da dn dc)) (R:Value→Int→Int→World→Prop)
  (cP:∀V:World,Below w.heap.size w V→Calls Tryz.prog 32 #[.string t,.slice da dn dc] V fun e w1=>∃v1,e=.returned v1∧Below w.heap.size w w1∧∀V1:World,Below w1.heap.size w1 V1→Calls Tryz.prog 31 #[.pointer (some ⟨q,0,none⟩),v1] V1 fun e w2=>∃v er at_,e=.returned (.tuple #[v,.int .i64 er,.int .i64 at_])∧w2.cell? ⟨pb,0,none⟩=some (.pointer (some ⟨q,0,none⟩))∧w2.cell? ⟨ob,7,none⟩=some (.slice da dn dc)∧R v er at_ w2) (u0 u1 u2 u4 u5 u7 u8 u9 u10 u11 u12 u13 u14 u15 u16 u17 u18 u19 u20 u21 u23 u24 u25 u26 u27 u28 u29 u30 u31 u32 u33 u34 u35 u36 u37 u38 u39 u40 u41 u42 u43 u44 u45 u46 u47 u48 u49 u50 u51 u52 u53 u54 u55 u56 u57 u58 u59 u60 u61 u62 u63 u64 u65 u66 u67 u68 u69 u70 u71 u72 u73 u74 u75 u76 u77 u78 u79 u80 u81 u82 u83 u84 u85 u86 u87 u88 u89 u90 u91 u92 u93 u94 u95 u96 u97 u98 u99 u100 u101 u102 u103 u104 u105 u106 u107 u108 u109 u110 u111 u112 u113 u114 u115 u116 u117 u118 u119 u120 u121 u122 u123 u124 u125 u126 u127 u128 u129 u130 u131 u132 u133 u134 u135 u136 u137 u138 u139 u140 u141 u142 u143 u144 u145 u146 u147 u148 u149 u150 u151 u152 u153 u154 u155 u156 u157 u158 u159 u160 u161 u162 u163 u164 u165 u166 u167 u168 u169 u170 u171 u172 u173 u174 u175 u176 u177 u178 u179 u180 u181 u182 u183 u184 u185 u186 u187 u188 u189 u190 u191 u192 u193 u194 u195 u196 u197 u198 u199 u200 u201 u202 u203 u204 u205 u206 u207 u208 u209 u210 u211 u212 u213 u214 u215 u216 u217 u218 u219 u220 u221 u222 u223 u224 u225 u226 u227 u228 u229 u230 u231 u232 u233 u234 u235 u236 u237 u238 u239 u240 u241 u242 u243 u244 u245 u246 u247 u248 u249 u250 u251 u252 u253 u254 u255 u256 u257 u258 u259:Value) :
  Code.wp Tryz.prog (regC Tryz.f15 43) (Exit.then (fun a w'=>(∃(er at_:Int),∃v23 v224 v225 v226 v227 v228 v229 v230 v231 v232 v233 v234:Value,a=⟨#[u0,u1,u2,.pointer (some ⟨ob,0,none⟩),u4,u5,.pointer (some ⟨pb,0,none⟩),u7,u8,u9,u10,u11,u12,u13,u14,u15,u16,u17,u18,u19,u20,u21,.string t,v23,.int .i64 er,.int .i64 at_,u26,u27,u28,u29,u30,u31,u32,u33,u34,u35,u36,u37,u38,u39,u40,u41,u42,u43,u44,u45,u46,u47,u48,u49,u50,u51,u52,u53,u54,u55,u56,u57,u58,u59,u60,u61,u62,u63,u64,u65,u66,u67,u68,u69,u70,u71,u72,u73,u74,u75,u76,u77,u78,u79,u80,u81,u82,u83,u84,u85,u86,u87,u88,u89,u90,u91,u92,u93,u94,u95,u96,u97,u98,u99,u100,u101,u102,u103,u104,u105,u106,u107,u108,u109,u110,u111,u112,u113,u114,u115,u116,u117,u118,u119,u120,u121,u122,u123,u124,u125,u126,u127,u128,u129,u130,u131,u132,u133,u134,u135,u136,u137,u138,u139,u140,u141,u142,u143,u144,u145,u146,u147,u148,u149,u150,u151,u152,u153,u154,u155,u156,u157,u158,u159,u160,u161,u162,u163,u164,u165,u166,u167,u168,u169,u170,u171,u172,u173,u174,u175,u176,u177,u178,u179,u180,u181,u182,u183,u184,u185,u186,u187,u188,u189,u190,u191,u192,u193,u194,u195,u196,u197,u198,u199,u200,u201,u202,u203,u204,u205,u206,u207,u208,u209,u210,u211,u212,u213,u214,u215,u216,u217,u218,u219,u220,u221,u222,u223,v224,v225,v226,v227,v228,v229,v230,v231,v232,v233,v234,u235,u236,u237,u238,u239,u240,u241,u242,u243,u244,u245,u246,u247,u248,u249,u250,u251,u252,u253,u254,u255,u256,u257,u258,u259],[]⟩∧R v23 er at_ w')∧True) (fun _ _ _=>False)) ⟨#[u0,u1,u2,.pointer (some ⟨ob,0,none⟩),u4,u5,.pointer (some ⟨pb,0,none⟩),u7,u8,u9,u10,u11,u12,u13,u14,u15,u16,u17,u18,u19,u20,u21,.string t,u23,u24,u25,u26,u27,u28,u29,u30,u31,u32,u33,u34,u35,u36,u37,u38,u39,u40,u41,u42,u43,u44,u45,u46,u47,u48,u49,u50,u51,u52,u53,u54,u55,u56,u57,u58,u59,u60,u61,u62,u63,u64,u65,u66,u67,u68,u69,u70,u71,u72,u73,u74,u75,u76,u77,u78,u79,u80,u81,u82,u83,u84,u85,u86,u87,u88,u89,u90,u91,u92,u93,u94,u95,u96,u97,u98,u99,u100,u101,u102,u103,u104,u105,u106,u107,u108,u109,u110,u111,u112,u113,u114,u115,u116,u117,u118,u119,u120,u121,u122,u123,u124,u125,u126,u127,u128,u129,u130,u131,u132,u133,u134,u135,u136,u137,u138,u139,u140,u141,u142,u143,u144,u145,u146,u147,u148,u149,u150,u151,u152,u153,u154,u155,u156,u157,u158,u159,u160,u161,u162,u163,u164,u165,u166,u167,u168,u169,u170,u171,u172,u173,u174,u175,u176,u177,u178,u179,u180,u181,u182,u183,u184,u185,u186,u187,u188,u189,u190,u191,u192,u193,u194,u195,u196,u197,u198,u199,u200,u201,u202,u203,u204,u205,u206,u207,u208,u209,u210,u211,u212,u213,u214,u215,u216,u217,u218,u219,u220,u221,u222,u223,u224,u225,u226,u227,u228,u229,u230,u231,u232,u233,u234,u235,u236,u237,u238,u239,u240,u241,u242,u243,u244,u245,u246,u247,u248,u249,u250,u251,u252,u253,u254,u255,u256,u257,u258,u259],[]⟩ w:=by
 unfold regC
 conv=>arg 2;whnf
 have CP:=hide cP;have HW0:=hide (drewB w);clear cP
 go_region_held3 (fun w'=>w'.cell? ⟨pb,0,none⟩=some (.pointer (some ⟨q,0,none⟩))∧w'.cell? ⟨ob,7,none⟩=some (.slice da dn dc)) (go_keep) (first
  | (go_at_call 32;refine (CP.out _ (by first | exact HW0.out | exact Below.refl _ _)).mono ?_;rintro e w1 ⟨v1,rfl,hb1,cI⟩;have CI:=hide cI;have g0:=cellB hb1 p0;have g1:=cellB hb1 c7;clear hb1 cI)
  | (go_at_call 31;refine (CI.out _ (by first | exact Below.refl _ _ | exact drewB _)).mono ?_;rintro e w2 ⟨v2,er,at_,rfl,k0,k1,hR⟩;have HR:=hide hR;clear hR))
 all_goals exact ⟨⟨er,at_,_,_,_,_,_,_,_,_,_,_,_,_,rfl,HR.out⟩,trivial⟩
def ImpMid (F:Nat→Prop) (q b:Nat) (wc:World) (r:Res) (v:Value) (er at_:Int) (w2:World):Prop:=er=r.1.2.1∧at_=((r.1.2.2:Nat):Int)∧∃wm,w2.ownsRow wm.heap.size 9 1 v r.1.1.length (r.1.1.map Value.string)∧NStF (fun k=>F k∧v.ownBlock≠some k) w2 q b r.2∧Below wc.heap.size wc wm∧Wrote b wm w2
theorem imp_mid {F:Nat→Prop} {q b pb ob:Nat} {S:List Ent} {wc:World} (h:NStF F wc q b S) (hF:∀k,wc.heap.size≤k→F k) (hT:Lib.Utf8Tabs 0 1 wc) (hok:OkE S) (t:ByteArray) (vd:Value) (ds:List Int) (hd:SliceI wc vd ds) (ht:t.size≤500000) (hds:ds.length≤262144) (p0:wc.cell? ⟨pb,0,none⟩=some (.pointer (some ⟨q,0,none⟩))) (c7:wc.cell? ⟨ob,7,none⟩=some vd) (V:World) (hV:Below wc.heap.size wc V) :
  Calls Tryz.prog 32 #[.string t,vd] V fun e w1=>∃v1,e=.returned v1∧Below wc.heap.size wc w1∧∀V1:World,Below w1.heap.size w1 V1→Calls Tryz.prog 31 #[.pointer (some ⟨q,0,none⟩),v1] V1 fun e w2=>∃v er at_,e=.returned (.tuple #[v,.int .i64 er,.int .i64 at_])∧w2.cell? ⟨pb,0,none⟩=some (.pointer (some ⟨q,0,none⟩))∧w2.cell? ⟨ob,7,none⟩=some vd∧ImpMid F q b wc (importF S t.data.toList) v er at_ w2:=by
 refine (pieces_any t _ ds V (hd.below hV) (by omega)).mono ?_;rintro e w1 ⟨v1,ps,rfl,hP,hcat,hpl⟩;have hb1:Below wc.heap.size wc w1:=hV.trans (hP.bel.mono hV.size);refine ⟨v1,rfl,hb1,fun V1 hV1=>?_⟩;have hbm:Below wc.heap.size wc V1:=hb1.trans (hV1.mono hb1.size);have hs1:=hbm.size;have eJ:joinB ps=t.data.toList:=hcat;have hm:=h.below hbm;have hI:=narImport_any F q b S v1 ps V1 hm (fun k hk=>hF k (by omega)) (tabsB (tabs2 hT) hT hbm) ((own_strs hP.own).below hV1) (by omega) (by rw[eJ];simp;omega) (fun e he=>by have:=hok.few e he;omega) hok.ok.closed.few;rw[eJ]at hI;refine hI.mono ?_;rintro e w2 ⟨v,Bv,hBv,rfl,hown,hst,hW⟩;obtain ⟨es,ec,hmb⟩:=hm.2.obj;refine ⟨v,_,_,rfl,cellM hmb hW.1 (cellB hbm p0),cellM hmb hW.1 (cellB hbm c7),rfl,rfl,V1,own_base hown hBv,⟨(KBz.keepM hmb hW.1 71 _ _ _ hm.1).trans hm.1,hst⟩,hbm,hW⟩
theorem step_import {B wb:Nat} {prs:List Pr} {bs:List ByteArray} {ls ts:List (Value × Nat)} {vss vbs vls vts:Value} {w:World} (h:WR (fun _=>False) B wb prs bs ls ts vss vbs vls vts w) (o:Opx) (hA:OpAt w o) (hO:OpOk o) (hT:Lib.Utf8Tabs 0 1 w) (hpl:prs.length≤900000) (hl:ls.length≤900000) (_htl:ts.length≤900000) (hbl:bs.length≤900000) (hbs:∀x∈bs,x.size≤500000) (hBw:B≤w.heap.size) (hpos:0<prs.length) :
  Calls Tryz.prog 15 #[.pointer (some ⟨wb,0,none⟩),.agg #[.int .i64 7,.int .i64 o.ia,.int .i64 o.ic,.string o.s,.string o.b,.slice o.la o.ns.length o.lc,.slice o.ma o.ms.length o.mc,.slice o.da o.ds.length o.dc]] w fun e w'=>e=.returned (.bool true)∧LStepB B wb prs bs ls ts w w':=by
 have hi:=pickN_lt o.ia hpos;obtain ⟨W,hW⟩:∃W,w.alloc (.cells #[.int .i64 7,.int .i64 o.ia,.int .i64 o.ic,.string o.s,.string o.b,.slice o.la o.ns.length o.lc,.slice o.ma o.ms.length o.mc,.slice o.da o.ds.length o.dc] 29)=W:=⟨_,rfl⟩;have hbW:Below w.heap.size w W:=by rw[← hW];exact belA (Below.refl _ w) _
 obtain ⟨o0,o1,o2,o3,o4,o5,o6,o7⟩:=eight_new w _ _ _ _ _ _ _ _ 29 W hW;have hWR:=h.below hbW;have cK:=fun V=>pick_det o.ia prs.length hpos (by omega) hA.ia V
 obtain ⟨g,cap,hvs,_⟩:=own_form hWR.rss hpos;have s0:=hWR.wbk.cell.1;rw[hvs]at s0;have hrow:=hWR.rss;rw[hvs]at hrow;obtain ⟨p0,p1⟩:=own_cellsP hrow (pickN o.ia prs.length) hi;have hnz:((prs.length:Int) == 0)=false:=beq_eq_false_iff_ne.2 (by omega);have H:=hide h;have HA:=hide hA;have HO:=hide hO;have HT:=hide hT;have HBW:=hide hbW;have HRG:=hide (And.intro s0 (And.intro o1 (And.intro p0 (And.intro p1 cK))));have HBS:=hide hbs;obtain ⟨P,hP⟩:∃P,prs[pickN o.ia prs.length]=P:=⟨_,rfl⟩;have hPm:P∈prs:=by rw[← hP];exact List.getElem_mem _
 have HPM:=hide hPm;rw[hP]at HRG;clear hbs h hA hO hT hbW hWR cK hrow o1 p0 p1 hvs hPm;go_enter Tryz.func15,Tryz.ntmps15;go_wp2;refine wp_mono (reg15_10 wb w.heap.size g prs.length cap (pickN o.ia prs.length) P.q P.r o.ia W hi HRG.out.1 HRG.out.2.1 HRG.out.2.2.1 HRG.out.2.2.2.1 HRG.out.2.2.2.2 _ _ _ _ _ _ _ _ _ _ _ _ _ _ _ _ _ _ _ _ _ _ _ _ _ _ _ _ _ _ _ _ _ _ _ _ _ _ _ _ _ _ _ _ _ _ _ _ _ _ _ _ _ _ _ _ _ _ _ _ _ _ _ _ _ _ _ _ _ _ _ _ _ _ _ _ _ _ _ _ _ _ _ _ _ _ _ _ _ _ _ _ _ _ _ _ _ _ _ _ _ _ _ _ _ _ _ _ _ _ _ _ _ _ _ _ _ _ _ _ _ _ _ _ _ _ _ _ _ _ _ _ _ _ _ _ _ _ _ _ _ _ _ _ _ _ _ _ _ _ _ _ _ _ _ _ _ _ _ _ _ _ _ _ _ _ _ _ _ _ _ _ _ _ _ _ _ _ _ _ _ _ _ _ _ _ _ _ _ _ _ _ _ _ _ _ _ _ _ _ _ _ _ _ _ _ _ _ _ _ _ _ _ _ _ _ _ _ _ _ _ _ _ _ _ _ _ _ _ _ _ _ _ _ _ _ _ _ _ _ _ _ _ _ _ _ _ _ _ _ _ _ _ _ _ _ _ _ ) (reg_then ?_);rintro a w2 ⟨⟨v58,v59,v60,v61,v62,v63,v64,v65,v66,v67,v68,v69,v70,v71,rfl⟩,hb2,hp2⟩;have HB2:=hide (HBW.out.trans (hb2.mono HBW.out.size));have q0:w2.cell? ⟨W.heap.size,0,none⟩=some (.pointer (some ⟨P.q,0,none⟩)):=by simp[World.cell?,hp2]
 have q1:w2.cell? ⟨W.heap.size,1,none⟩=some (.pointer (some ⟨P.r,0,none⟩)):=by simp[World.cell?,hp2]
 have x0:=cellB hb2 o0;have x3:=cellB hb2 o3;have x5:=cellB hb2 o5;have x6:=cellB hb2 o6;have x2:=cellB hb2 o2;have x4:=cellB hb2 o4;have x7:=cellB hb2 o7;clear hp2 hb2 o0 o2 o3 o4 o5 o6 o7 HRG hW hnz s0 HBW;obtain ⟨ba,bc,hvb,_⟩:=own_sl H.out.rbs;subst hvb;have HW2:=hide (H.out.below HB2.out);have s1:=HW2.out.wbk.cell.2.1;clear x3 x5 x6
 go_upto_region 41 with fail
 go_cut [22,209] from 198 to 223 (fun v22 v209 wc=>∃c:Bool,v22=.string o.b∧v209=.bool c∧(c=true→0<bs.length)∧w2=wc)
 case first=>
  cases hbz:(o.b.toList.isEmpty) with
  | false=>
   go_wp2;go_meet;exact ⟨false,rfl,rfl,(fun h=>by cases h),rfl⟩
  | true=>
   by_cases hn:0<bs.length
   ·have hnz:(0:Int)<(bs.length:Int):=by omega
    go_wp2;go_meet;exact ⟨true,rfl,rfl,fun _=>hn,rfl⟩
   ·have hnz:¬ (0:Int)<(bs.length:Int):=by omega
    go_wp2;go_meet;exact ⟨false,rfl,rfl,(fun h=>by cases h),rfl⟩
 case rest=>
 obtain ⟨c,rfl,rfl,hcn,hwc⟩:=hcut;subst hwc
 go_step
 go_cut [22] from 210 to 223 (fun v22 wc=>∃t:ByteArray,v22=.string t∧t.size≤500000∧Hid (Below w2.heap.size w2 wc))
 case first=>
  cases c with
  | false=>
   go_wp2;go_meet;exact ⟨o.b,rfl,by have:=HO.out.b;omega,hide (Below.refl _ _)⟩
  | true=>
   have hn:=hcn rfl;have hi2:=pickN_lt o.ic hn;obtain ⟨g2,cap2,hvb2,_⟩:=own_form HW2.out.rbs hn;cases hvb2;have hrb2:=HW2.out.rbs;have ct:w2.cell? ⟨g2,pickN o.ic bs.length,none⟩=some (.string (bs[pickN o.ic bs.length]'hi2)):=by
    have:=hrb2.cellAt (pickN o.ic bs.length) (by omega);rw[List.getElem?_map,List.getElem?_eq_getElem hi2]at this;exact this
   have cK2:=fun V=>pick_det o.ic bs.length hn (by omega) HA.out.ic V
   have hts2:=HBS.out _ (List.getElem_mem hi2);generalize bs[pickN o.ic bs.length]'hi2=t2 at ct hts2;have HCK:=hide cK2;clear cK2 hrb2
   go_upto_region 42 with fail
   refine wp_mono (reg15_42 wb w.heap.size g2 bs.length bc (pickN o.ic bs.length) o.ic t2 w2 hi2 s1 x2 ct HCK.out _ _ _ _ _ _ _ _ _ _ _ _ _ _ _ _ _ _ _ _ _ _ _ _ _ _ _ _ _ _ _ _ _ _ _ _ _ _ _ _ _ _ _ _ _ _ _ _ _ _ _ _ _ _ _ _ _ _ _ _ _ _ _ _ _ _ _ _ _ _ _ _ _ _ _ _ _ _ _ _ _ _ _ _ _ _ _ _ _ _ _ _ _ _ _ _ _ _ _ _ _ _ _ _ _ _ _ _ _ _ _ _ _ _ _ _ _ _ _ _ _ _ _ _ _ _ _ _ _ _ _ _ _ _ _ _ _ _ _ _ _ _ _ _ _ _ _ _ _ _ _ _ _ _ _ _ _ _ _ _ _ _ _ _ _ _ _ _ _ _ _ _ _ _ _ _ _ _ _ _ _ _ _ _ _ _ _ _ _ _ _ _ _ _ _ _ _ _ _ _ _ _ _ _ _ _ _ _ _ _ _ _ _ _ _ _ _ _ _ _ _ _ _ _ _ _ _ _ _ _ _ _ _ _ _ _ _ _ _ _ _ _ _ _ _ _ _ _ _ _ _ _ _ _ _ _ _ _ ) (reg_then ?_);rintro a w3 ⟨⟨v210,v211,v212,v213,v214,v215,v216,v217,v218,v219,v220,v221,v222,v223,rfl⟩,hb3⟩;have HB3:=hide hb3;clear hb3;go_wp2;go_meet;exact ⟨t2,rfl,hts2,HB3⟩
 case rest=>
  obtain ⟨t,rfl,hts,HBc⟩:=hcut;have HBT:=hide (HB2.out.trans (HBc.out.mono HB2.out.size));have y0:=cellB HBc.out q0;have y1:=cellB HBc.out q1;have y7:=cellB HBc.out x7;have HWRc:=hide (H.out.below HBT.out);have hPO:=HWRc.out.pr P HPM.out;have hFc:=HWRc.out.fresh (fun k hk=>hk.elim);have hTc:=tabsB (tabs2 HT.out) HT.out HBT.out;have cP:=hide (fun V hV=>imp_mid (pb:=W.heap.size) (ob:=w.heap.size) hPO.n hFc hTc hPO.ok t _ o.ds (HA.out.d.below HBT.out) hts HO.out.ds y0 y7 V hV);have HOKE:=hide hPO.ok;have HIF:=hide (import_few hPO.ok t.data.toList (by simp;omega));have HIO:=hide (hPO.ok.import t.data.toList (by simp;omega));obtain ⟨IR,hIR⟩:∃IR,importF P.S t.data.toList=IR:=⟨_,rfl⟩;have HIR:=hide hIR;rw[hIR]at cP HIF HIO;have HFC:=hide hFc;clear hPO hFc hTc hIR q0 q1 x0 x7 x2 x4 s1
  go_upto_region 43 with fail
  refine wp_mono (reg15_43 w.heap.size W.heap.size P.q o.ds.length o.dc t o.da wc y0 y7 _ cP.out _ _ _ _ _ _ _ _ _ _ _ _ _ _ _ _ _ _ _ _ _ _ _ _ _ _ _ _ _ _ _ _ _ _ _ _ _ _ _ _ _ _ _ _ _ _ _ _ _ _ _ _ _ _ _ _ _ _ _ _ _ _ _ _ _ _ _ _ _ _ _ _ _ _ _ _ _ _ _ _ _ _ _ _ _ _ _ _ _ _ _ _ _ _ _ _ _ _ _ _ _ _ _ _ _ _ _ _ _ _ _ _ _ _ _ _ _ _ _ _ _ _ _ _ _ _ _ _ _ _ _ _ _ _ _ _ _ _ _ _ _ _ _ _ _ _ _ _ _ _ _ _ _ _ _ _ _ _ _ _ _ _ _ _ _ _ _ _ _ _ _ _ _ _ _ _ _ _ _ _ _ _ _ _ _ _ _ _ _ _ _ _ _ _ _ _ _ _ _ _ _ _ _ _ _ _ _ _ _ _ _ _ _ _ _ _ _ _ _ _ _ _ _ _ _ _ _ _ _ _ _ _ _ _ _ _ _ _ _ _ _ _ _ _ _ _ _ _ _ _ _ _ _ _ _ _ _ ) (reg_then ?_);rintro a w3 ⟨⟨er,at_,v23,v224,v225,v226,v227,v228,v229,v230,v231,v232,v233,v234,rfl,hR⟩,_⟩;obtain ⟨rfl,rfl,wm,hown,hN3,hbm,hWm⟩:=hR;obtain ⟨va,vc,hva,_⟩:=own_sl hown;subst hva;have hbw:Below w.heap.size w wm:=HBT.out.trans (hbm.mono HBT.out.size);have hWRm:WR (fun k=>(Value.slice va IR.1.1.length vc).ownBlock=some k) B wb prs bs ls ts vss (.slice ba bs.length bc) vls vts wm:=(H.out.below hbw).avoid (fun k hk=>(hown.lt k hk).1);have hPOm:=hWRm.pr P HPM.out;have hR3:=hPOm.other hWm;obtain ⟨es,ec,hmb⟩:=hPOm.n.2.obj;have k1:w3.cell? ⟨W.heap.size,1,none⟩=some (.pointer (some ⟨P.r,0,none⟩)):=cellM hmb hWm.1 (cellB hbm y1);have hs3:=hWm.1.size;have hF3:∀k,w3.heap.size≤k→FW (fun k=>(Value.slice va IR.1.1.length vc).ownBlock=some k) wb vss (.slice ba bs.length bc) vls vts k:=fun k hk=>⟨fun ha=>by have:=(hown.lt k ha).2;omega,((H.out.below hbw).fresh (fun _ h=>h.elim) k (by omega)).2⟩
  have cM:=hide (rImportF_any _ P.r P.S t w3 hR3 hF3 HOKE.out.ok.good (by omega));rw[HIR.out]at cM;have HN3:Hid (NStF (FW (fun k=>(Value.slice va IR.1.1.length vc).ownBlock=some k) wb vss (.slice ba bs.length bc) vls vts) w3 P.q P.b IR.2):=hide ⟨hN3.1,hN3.2.mono fun k hk=>⟨hk.2,hk.1.2⟩⟩;have HWRm:=hide hWRm;have HOWN:=hide hown;have HWm:=hide hWm;have HR3:=hide hR3;have HBB:=hide (And.intro hPOm.bb hPOm.br);have HBW:=hide hbw;have hif:=HIF.out;have htl2:t.data.toList.length=t.size:=by simp
  have hBm:=Nat.le_trans hBw hbw.size;clear hown hN3 hbm hWm hbw hWRm hPOm hR3 hmb hF3 cP y0 y1 y7
  go_wp2_with fail
  refine cM.out.mono ?_;rintro e w4 ⟨v4,rfl,hS4,hR4,hW4⟩;obtain ⟨ra,rn,rc,hrb⟩:=HR3.out.obj;have hK4:∀t,t≠48→KeepT t w3 w4:=fun t ht=>KBz.keepS hrb hW4.1 ht
  have hown4:=own_keepT HOWN.out (hK4 9 (by decide));have hWR4:WR (fun k=>(Value.slice va IR.1.1.length vc).ownBlock=some k) B wb (prs.set (pickN o.ia prs.length) ⟨P.q,P.b,P.r,IR.2⟩) bs ls ts vss (.slice ba bs.length bc) vls vts w4:=by
   subst hP;exact HWRm.out.ins (pickN o.ia prs.length) hi _ HIO.out HWm.out HN3.out hW4 hR4
  obtain ⟨a4,c4,hv4,_⟩:=id hS4;subst hv4;have cS:=hide (lsameText_any _ _ IR.1.1 IR.1.1 w4 (own_strs hown4) hS4 (by omega) (by omega));have hee:eqL IR.1.1 IR.1.1=true:=decide_eq_true rfl;rw[hee]at cS;have HWR4:=hide hWR4;have HOWN4:=hide hown4;have HB4:Hid (Below B w w4):=hide (((HBW.out.mono hBw).trans (HWm.out.2 B HBB.out.1)).trans (hW4.2 B HBB.out.2));have hs4:=hW4.1.size;clear hS4 hR4 hW4 hrb hK4 hown4 hWR4 hee cM k1
  go_wp2_with fail
  refine cS.out.mono ?_;rintro e w5 ⟨rfl,hb5⟩;have hA5:=HWR4.out.below hb5;have hs5:=hb5.size;have ho5:=own_below HOWN4.out hb5;have HB5:Hid (Below B w w5):=hide (HB4.out.trans (hb5.mono (by omega)));have CF:=hide (mineW (A':=fun _=>False) hA5 _ ho5 hBm (by omega) (fun g hg=>hg) (fun k hk=>hk.elim) (by omega) (by omega));have HKM:=hide (fun w9 hk9=>hA5.belM (w':=w9) ho5 hBm (by omega) hk9);clear hb5 cS hA5 ho5
  go_wp2_with fail
  refine CF.out.mono ?_;rintro e w6 ⟨rfl,ls',vls',h9,hls,hk9⟩;have HST:Hid (LStepB B wb prs bs ls ts w w6):=hide ⟨bs,fun _ hx=>.inl hx,by omega,_,ls',ts,vss,_,vls',vts,h9,by rw[List.length_set];omega,by omega,by omega,HB5.out.trans (HKM.out _ hk9)⟩;clear h9 hls hk9 CF;go_wp2;go_ret;exact ⟨by simp,HST.out⟩
end Go.Proofs.YticfcjmlphhpgaaGreatDoor
