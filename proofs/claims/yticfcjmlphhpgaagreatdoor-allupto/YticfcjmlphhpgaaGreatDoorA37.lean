import Derived.Test.YticfcjmlphhpgaaGreatDoorA34
import Derived.Test.YticfcjmlphhpgaaGreatDoorA36
set_option maxRecDepth 20000
set_option maxHeartbeats 8000000
namespace Go.Proofs.YticfcjmlphhpgaaGreatDoor
open Go.RowKit Go.Maps
theorem reg12_6 (ob:Nat) (y k:Int) (w:World) (c0:w.cell? ⟨ob,0,none⟩=some (.int .i64 k)) (u0 u2 u3 u4 u5 u6 u8 u9 u10 u11 u12 u13 u14 u15 u16 u17 u18 u19 u20 u21 u22 u23 u24 u25 u26 u27 u28 u29 u30 u31 u32 u33 u34 u35 u36 u37 u38 u39 u40 u41 u42 u43 u44 u45 u46 u47 u48 u49 u50 u51 u52 u53 u54 u55 u56 u57 u58 u59 u60 u61 u62 u63 u64 u65 u66 u67 u68 u69 u70 u71 u72 u73 u74 u75 u76 u77 u78 u79 u80 u81 u82:Value) :
  Code.wp Tryz.prog (regC Tryz.f12 6) (Exit.then (fun a w'=>(∃v8 v29 v30 v31 v32 v33 v34 v35 v36 v37 v38 v39 v40 v41 v42 v43 v44 v45 v46 v47 v48 v49 v50 v51 v52 v53 v54 v55:Value,a=⟨#[u0,.int .i64 y,u2,u3,u4,u5,u6,.pointer (some ⟨ob,0,none⟩),v8,u9,u10,u11,u12,u13,u14,u15,u16,u17,u18,u19,u20,u21,u22,u23,u24,u25,u26,u27,u28,v29,v30,v31,v32,v33,v34,v35,v36,v37,v38,v39,v40,v41,v42,v43,v44,v45,v46,v47,v48,v49,v50,v51,v52,v53,v54,v55,u56,u57,u58,u59,u60,u61,u62,u63,u64,u65,u66,u67,u68,u69,u70,u71,u72,u73,u74,u75,u76,u77,u78,u79,u80,u81,u82],[]⟩)∧Hid (w'=w)) (fun _ _ _=>False)) ⟨#[u0,.int .i64 y,u2,u3,u4,u5,u6,.pointer (some ⟨ob,0,none⟩),u8,u9,u10,u11,u12,u13,u14,u15,u16,u17,u18,u19,u20,u21,u22,u23,u24,u25,u26,u27,u28,u29,u30,u31,u32,u33,u34,u35,u36,u37,u38,u39,u40,u41,u42,u43,u44,u45,u46,u47,u48,u49,u50,u51,u52,u53,u54,u55,u56,u57,u58,u59,u60,u61,u62,u63,u64,u65,u66,u67,u68,u69,u70,u71,u72,u73,u74,u75,u76,u77,u78,u79,u80,u81,u82],[]⟩ w:=by
 unfold regC
 conv=>arg 2;whnf
 go_wp2
 all_goals (try subst_vars)
 all_goals exact ⟨⟨_,_,_,_,_,_,_,_,_,_,_,_,_,_,_,_,_,_,_,_,_,_,_,_,_,_,_,_,rfl⟩,by first | exact hide rfl | exact hide trivial⟩
theorem WR.start (w:World) (W:World) (hW:W.heap[w.heap.size]?=some (.cells #[.slice none 0 0,.slice none 0 0,.slice none 0 0,.slice none 0 0,.bool false] 36 (0,0))):WR (fun _=>False) w.heap.size w.heap.size [] [] [] [] (.slice none 0 0) (.slice none 0 0) (.slice none 0 0) (.slice none 0 0) W:=
 ⟨hW,Nat.le_refl _,World.ownsRow_nil _ _ _ _,World.ownsRow_nil _ _ _ _,World.ownsRow_nil _ _ _ _,World.ownsRow_nil _ _ _ _,(fun k h=>by simp at h),(fun k h=>by simp at h),(fun x hx=>by cases hx),(fun x hx=>by cases hx),(fun g _ hF=>hF),(fun p hp=>by cases hp),List.Pairwise.nil⟩
theorem step_four {B wb:Nat} {prs:List Pr} {bs:List ByteArray} {ls ts:List (Value × Nat)} {vss vbs vls vts:Value} {w:World} (h:WR (fun _=>False) B wb prs bs ls ts vss vbs vls vts w) (o:Opx) (hA:OpAt w o) (hO:OpOk o) (hT:Lib.Utf8Tabs 0 1 w) (hpl:prs.length≤900000) (hl:ls.length≤900000) (htl:ts.length≤900000) (hbl:bs.length≤900000) (hbs:∀x∈bs,x.size≤500000) (hBw:B≤w.heap.size) :
  Calls Tryz.prog 15 #[.pointer (some ⟨wb,0,none⟩),.agg #[.int .i64 o.kind,.int .i64 o.ia,.int .i64 o.ic,.string o.s,.string o.b,.slice o.la o.ns.length o.lc,.slice o.ma o.ms.length o.mc,.slice o.da o.ds.length o.dc]] w fun e w'=>e=.returned (.bool true)∧LStepB B wb prs bs ls ts w w':=by
 by_cases h67:o.kind≠6∧o.kind≠7
 ·exact (step_three h o hA hO hT hpl hl htl hBw h67).mono fun e w' h=>⟨h.1,h.2.b⟩
 by_cases hp:prs.length=0
 ·have e0:prs=[]:=List.eq_nil_of_length_eq_zero hp;subst e0;exact (step_empty h o hBw o.kind (by omega)).mono fun e w' h=>⟨h.1,h.2.b⟩
 by_cases h6:o.kind=6
 ·rw[h6];exact step_export h o hA hO hT hpl hl htl hbl hBw (by omega)
 ·have h7:o.kind=7:=by omega
  rw[h7];exact step_import h o hA hO hT hpl hl htl hbl hbs hBw (by omega)
theorem UpTo_all (v:Value) (os:List Opx) (w:World) (h:SliceO w v os) (hT:Lib.Utf8Tabs 0 1 w) (hol:os.length≤262144) (hok:∀o∈os,OpOk o) :
  Calls Tryz.prog 12 #[v,.int .i64 0] w fun e w'=>e=.returned (.int .i64 (-1))∧Below w.heap.size w w':=by
 obtain ⟨⟨a,cap,rfl,hsc⟩,hat⟩:=h;have HAT:=hide hat;have HOK:=hide hok;have HSC:=hide hsc;have HT:=hide hT;have HWS:=hide (WR.start w (w.alloc (.cells #[.slice none 0 0,.slice none 0 0,.slice none 0 0,.slice none 0 0,.bool false] 36)) (block_new w _));have HBS:=hide (belA (Below.refl _ w) (.cells #[.slice none 0 0,.slice none 0 0,.slice none 0 0,.slice none 0 0,.bool false] 36));clear hsc hat hok hT;go_enter Tryz.func12,Tryz.ntmps12;go_wp2;generalize w.alloc (.cells #[.slice none 0 0,.slice none 0 0,.slice none 0 0,.slice none 0 0,.bool false] 36)=W0 at HWS HBS ⊢
 go_loopw [13] (fun iv w2=>∃(j:Nat) (prs:List Pr) (bs:List ByteArray) (ls ts:List (Value × Nat)) (vss vbs vls vts:Value),j≤os.length∧iv=.int .i64 j∧Hid (WR (fun _=>False) w.heap.size w.heap.size prs bs ls ts vss vbs vls vts w2∧(∀x∈bs,x.size≤500000)∧bs.length≤j∧prs.length≤j∧ls.length≤j∧ts.length≤j)∧Hid (Below w.heap.size w w2)) (fun iv _=>os.length - (intOf iv).toNat)
 case atStart=>exact ⟨0,[],[],[],[],_,_,_,_,by omega,rfl,hide ⟨HWS.out,by simp,by simp,by simp,by simp,by simp⟩,HBS⟩
 case round=>
  obtain ⟨j,prs,bs,ls,ts,vss,vbs,vls,vts,hj,rfl,HWR,HB2⟩:=hrel;clear HWS HBS
  by_cases hlt:j<os.length
  ·have hltz:(j:Int)<os.length:=by omega
   obtain ⟨sb,so,hsa,hsb,hS⟩:=HSC.out (by omega);subst hsa;obtain ⟨e0,e1,e2,e3,e4,e5,e6,e7⟩:=hS j hlt;have d0:=cellB HB2.out e0;have d1:=cellB HB2.out e1;have d2:=cellB HB2.out e2;have d3:=cellB HB2.out e3;have d4:=cellB HB2.out e4;have d5:=cellB HB2.out e5;have d6:=cellB HB2.out e6;have d7:=cellB HB2.out e7;have HO:=hide (And.intro (HAT.out _ (List.getElem_mem hlt)) (HOK.out _ (List.getElem_mem hlt)));generalize os[j]=o at *;clear hS e0 e1 e2 e3 e4 e5 e6 e7;have HB3:=hide (belA HB2.out (.cells #[.int .i64 o.kind,.int .i64 o.ia,.int .i64 o.ic,.string o.s,.string o.b,.slice o.la o.ns.length o.lc,.slice o.ma o.ms.length o.mc,.slice o.da o.ds.length o.dc] 29));have H23:=hide (belA (Below.refl _ wr) (.cells #[.int .i64 o.kind,.int .i64 o.ia,.int .i64 o.ic,.string o.s,.string o.b,.slice o.la o.ns.length o.lc,.slice o.ma o.ms.length o.mc,.slice o.da o.ds.length o.dc] 29));obtain ⟨o0,o1,o2,o3,o4,o5,o6,o7⟩:=eight_new wr (.int .i64 o.kind) (.int .i64 o.ia) (.int .i64 o.ic) (.string o.s) (.string o.b) (.slice o.la o.ns.length o.lc) (.slice o.ma o.ms.length o.mc) (.slice o.da o.ds.length o.dc) 29 _ rfl
   focus
    go_upto_region 6 with fail
    refine wp_mono (reg12_6 wr.heap.size 0 o.kind _ o0 _ _ _ _ _ _ _ _ _ _ _ _ _ _ _ _ _ _ _ _ _ _ _ _ _ _ _ _ _ _ _ _ _ _ _ _ _ _ _ _ _ _ _ _ _ _ _ _ _ _ _ _ _ _ _ _ _ _ _ _ _ _ _ _ _ _ _ _ _ _ _ _ _ _ _ _ _ _ _ _ _) (reg_then ?_);rintro a8 w8 ⟨⟨v8,v29,v30,v31,v32,v33,v34,v35,v36,v37,v38,v39,v40,v41,v42,v43,v44,v45,v46,v47,v48,v49,v50,v51,v52,v53,v54,v55,rfl⟩,hw8⟩;have hw8:=hw8.out;subst hw8;have HOA:=hide ((HO.out.1.below (HB2.out.mono (Nat.le_refl _))).below H23.out);have cT:=hide (step_four (HWR.out.1.below H23.out) o HOA.out HO.out.2 (tabsB (tabs2 HT.out) HT.out HB3.out) (by have:=HWR.out.2.2;omega) (by have:=HWR.out.2.2;omega) (by have:=HWR.out.2.2;omega) (by have:=HWR.out.2.2;omega) HWR.out.2.1 HB3.out.size)
    go_wp2_with fail
    refine cT.out.mono ?_;rintro e w9 ⟨rfl,hs9⟩;have HS9:=hide hs9;clear hs9 cT;obtain ⟨bs',hx9,hlb,prs',ls',ts',vss',vbs',vls',vts',h9,hl1,hl2,hl3,hb9⟩:=HS9.out;have HW9:=hide (And.intro h9 (And.intro (fun x hx=>(hx9 x hx).elim (HWR.out.2.1 x) id:∀x∈bs',x.size≤500000) (And.intro (show bs'.length≤j+1 by have:=HWR.out.2.2;omega) (And.intro (show prs'.length≤j+1 by have:=HWR.out.2.2;omega) (And.intro (show ls'.length≤j+1 by have:=HWR.out.2.2;omega) (show ts'.length≤j+1 by have:=HWR.out.2.2;omega))))));have HB9:=hide (HB3.out.trans hb9);have hwf:=h9.wbk.cell.2.2.2.2;clear h9 hb9 hx9 HS9 HWR HB3 HB2
    focus
     have cL:=hide (looks_any HW9.out.1 (by have:=HW9.out.2.2;omega) (by have:=HW9.out.2.2;omega))
     go_wp2_with fail
     refine cL.out.mono ?_;rintro e w10 ⟨rfl,hb10⟩;have HWA:=hide (And.intro (HW9.out.1.below hb10) HW9.out.2);have HBA:=hide (HB9.out.trans (hb10.mono HB9.out.size));clear hb10 cL HW9 HB9;go_wp2;go_roundw
     case rel=>exact ⟨j+1,prs',bs',ls',ts',vss',vbs',vls',vts',by omega,by go_num,HWA,HBA⟩
     case measure=>simp[intOf];omega
  ·obtain rfl:j=os.length:=by omega
   have hltz:¬ ((os.length:Nat):Int)<os.length:=by omega
   go_wp2;go_ret;exact ⟨rfl,HB2.out⟩
theorem UpTo_four (v:Value) (os:List Opx) (y:Int) (hy5:5<y) (w:World) (h:SliceO w v os) (hT:Lib.Utf8Tabs 0 1 w) (hol:os.length≤262144) (hok:∀o∈os,OpOk o) :
  Calls Tryz.prog 12 #[v,.int .i64 y] w fun e w'=>e=.returned (.int .i64 (-1))∧Below w.heap.size w w':=by
 obtain ⟨⟨a,cap,rfl,hsc⟩,hat⟩:=h;have HAT:=hide hat;have HOK:=hide hok;have HSC:=hide hsc;have HT:=hide hT;have y0:(y == 0)=false:=beq_eq_false_iff_ne.2 (by omega);have HST:=hide (fun (k:Int) V=>stage_any k V);have HWS:=hide (WR.start w (w.alloc (.cells #[.slice none 0 0,.slice none 0 0,.slice none 0 0,.slice none 0 0,.bool false] 36)) (block_new w _));have HBS:=hide (belA (Below.refl _ w) (.cells #[.slice none 0 0,.slice none 0 0,.slice none 0 0,.slice none 0 0,.bool false] 36));clear hsc hat hok hT;go_enter Tryz.func12,Tryz.ntmps12;go_wp2;generalize w.alloc (.cells #[.slice none 0 0,.slice none 0 0,.slice none 0 0,.slice none 0 0,.bool false] 36)=W0 at HWS HBS ⊢
 go_loopw [13] (fun iv w2=>∃(j:Nat) (prs:List Pr) (bs:List ByteArray) (ls ts:List (Value × Nat)) (vss vbs vls vts:Value),j≤os.length∧iv=.int .i64 j∧Hid (WR (fun _=>False) w.heap.size w.heap.size prs bs ls ts vss vbs vls vts w2∧(∀x∈bs,x.size≤500000)∧bs.length≤j∧prs.length≤j∧ls.length≤j∧ts.length≤j)∧Hid (Below w.heap.size w w2)) (fun iv _=>os.length - (intOf iv).toNat)
 case atStart=>exact ⟨0,[],[],[],[],_,_,_,_,by omega,rfl,hide ⟨HWS.out,by simp,by simp,by simp,by simp,by simp⟩,HBS⟩
 case round=>
  obtain ⟨j,prs,bs,ls,ts,vss,vbs,vls,vts,hj,rfl,HWR,HB2⟩:=hrel;clear HWS HBS
  by_cases hlt:j<os.length
  ·have hltz:(j:Int)<os.length:=by omega
   obtain ⟨sb,so,hsa,hsb,hS⟩:=HSC.out (by omega);subst hsa;obtain ⟨e0,e1,e2,e3,e4,e5,e6,e7⟩:=hS j hlt;have d0:=cellB HB2.out e0;have d1:=cellB HB2.out e1;have d2:=cellB HB2.out e2;have d3:=cellB HB2.out e3;have d4:=cellB HB2.out e4;have d5:=cellB HB2.out e5;have d6:=cellB HB2.out e6;have d7:=cellB HB2.out e7;have HO:=hide (And.intro (HAT.out _ (List.getElem_mem hlt)) (HOK.out _ (List.getElem_mem hlt)));generalize os[j]=o at *;clear hS e0 e1 e2 e3 e4 e5 e6 e7;have HB3:=hide (belA HB2.out (.cells #[.int .i64 o.kind,.int .i64 o.ia,.int .i64 o.ic,.string o.s,.string o.b,.slice o.la o.ns.length o.lc,.slice o.ma o.ms.length o.mc,.slice o.da o.ds.length o.dc] 29));have H23:=hide (belA (Below.refl _ wr) (.cells #[.int .i64 o.kind,.int .i64 o.ia,.int .i64 o.ic,.string o.s,.string o.b,.slice o.la o.ns.length o.lc,.slice o.ma o.ms.length o.mc,.slice o.da o.ds.length o.dc] 29));obtain ⟨o0,o1,o2,o3,o4,o5,o6,o7⟩:=eight_new wr (.int .i64 o.kind) (.int .i64 o.ia) (.int .i64 o.ic) (.string o.s) (.string o.b) (.slice o.la o.ns.length o.lc) (.slice o.ma o.ms.length o.mc) (.slice o.da o.ds.length o.dc) 29 _ rfl;have cS1:=hide (HST.out o.kind (wr.alloc (.cells #[.int .i64 o.kind,.int .i64 o.ia,.int .i64 o.ic,.string o.s,.string o.b,.slice o.la o.ns.length o.lc,.slice o.ma o.ms.length o.mc,.slice o.da o.ds.length o.dc] 29)));have cS2:=hide (HST.out y (wr.alloc (.cells #[.int .i64 o.kind,.int .i64 o.ia,.int .i64 o.ic,.string o.s,.string o.b,.slice o.la o.ns.length o.lc,.slice o.ma o.ms.length o.mc,.slice o.da o.ds.length o.dc] 29)));rw[if_neg (by omega)]at cS2;obtain ⟨sk,hsk,hsk4⟩:∃sk:Int,(if o.kind≤5 then (3:Int) else 4)=sk∧sk≤4:=⟨_,rfl,by split <;> decide⟩;rw[hsk]at cS1;clear hsk
   focus
    go_upto_region 6 with (first
     | (go_at_call 14;first | (refine cS1.out.mono ?_;rintro e w4 ⟨rfl,rfl⟩;clear cS1) | (refine cS2.out.mono ?_;rintro e w4 ⟨rfl,rfl⟩;clear cS2)))
    refine wp_mono (reg12_6 wr.heap.size y o.kind _ o0 _ _ _ _ _ _ _ _ _ _ _ _ _ _ _ _ _ _ _ _ _ _ _ _ _ _ _ _ _ _ _ _ _ _ _ _ _ _ _ _ _ _ _ _ _ _ _ _ _ _ _ _ _ _ _ _ _ _ _ _ _ _ _ _ _ _ _ _ _ _ _ _ _ _ _ _ _ _ _ _ _) (reg_then ?_);rintro a8 w8 ⟨⟨v8,v29,v30,v31,v32,v33,v34,v35,v36,v37,v38,v39,v40,v41,v42,v43,v44,v45,v46,v47,v48,v49,v50,v51,v52,v53,v54,v55,rfl⟩,hw8⟩;have hw8:=hw8.out;subst hw8;have HOA:=hide ((HO.out.1.below (HB2.out.mono (Nat.le_refl _))).below H23.out);have cT:=hide (step_four (HWR.out.1.below H23.out) o HOA.out HO.out.2 (tabsB (tabs2 HT.out) HT.out HB3.out) (by have:=HWR.out.2.2;omega) (by have:=HWR.out.2.2;omega) (by have:=HWR.out.2.2;omega) (by have:=HWR.out.2.2;omega) HWR.out.2.1 HB3.out.size)
    go_wp2_with fail
    refine cT.out.mono ?_;rintro e w9 ⟨rfl,hs9⟩;have HS9:=hide hs9;clear hs9 cT;obtain ⟨bs',hx9,hlb,prs',ls',ts',vss',vbs',vls',vts',h9,hl1,hl2,hl3,hb9⟩:=HS9.out;have HW9:=hide (And.intro h9 (And.intro (fun x hx=>(hx9 x hx).elim (HWR.out.2.1 x) id:∀x∈bs',x.size≤500000) (And.intro (show bs'.length≤j+1 by have:=HWR.out.2.2;omega) (And.intro (show prs'.length≤j+1 by have:=HWR.out.2.2;omega) (And.intro (show ls'.length≤j+1 by have:=HWR.out.2.2;omega) (show ts'.length≤j+1 by have:=HWR.out.2.2;omega))))));have HB9:=hide (HB3.out.trans hb9);have hwf:=h9.wbk.cell.2.2.2.2;clear h9 hb9 hx9 HS9 HWR HB3 HB2
    focus
     have ym:(y == -1)=false:=beq_eq_false_iff_ne.2 (by omega);go_wp2;go_roundw
     case rel=>exact ⟨j+1,prs',bs',ls',ts',vss',vbs',vls',vts',by omega,by go_num,HW9,HB9⟩
     case measure=>simp[intOf];omega
  ·obtain rfl:j=os.length:=by omega
   have hltz:¬ ((os.length:Nat):Int)<os.length:=by omega
   go_wp2;go_ret;exact ⟨rfl,HB2.out⟩
theorem SliceO.below {w w':World} {v:Value} {os:List Opx} (h:SliceO w v os) (hb:Below w.heap.size w w'):SliceO w' v os:=by
 obtain ⟨⟨a,cap,rfl,h1⟩,h2⟩:=h;refine ⟨⟨a,cap,rfl,fun hn=>?_⟩,fun o ho=>(h2 o ho).below hb⟩;obtain ⟨b,off,rfl,hlt,hN⟩:=h1 hn;refine ⟨b,off,rfl,by have:=hb.size;omega,fun j hj=>?_⟩;obtain ⟨c0,c1,c2,c3,c4,c5,c6,c7⟩:=hN j hj;exact ⟨cellB hb c0,cellB hb c1,cellB hb c2,cellB hb c3,cellB hb c4,cellB hb c5,cellB hb c6,cellB hb c7⟩
def LawSaid (f:FuncId):Prop:=∀(v:Value) (os:List Opx) (w:World),Lib.Utf8Tabs 0 1 w→SliceO w v os→os.length≤2097152→(∀o∈os,OpSz o) →
 Calls Tryz.prog f #[v] w fun e w'=>e=.returned (.bool true)∧Below w.heap.size w w'
theorem lawExports:LawSaid 7:=by
 intro v os w hT h hl hz;have HT:=hide hT;have CS:=hide (small_any v os w h hz hl);have CU:=hide (fun (W:World) (hb:Below w.heap.size w W) (h1:os.length≤262144) (h2:∀o∈os,OpOk o)=>UpTo_four v os 6 (by decide) W (h.below hb) (tabsB (tabs2 hT) hT hb) h1 h2);clear h hT hz;go_enter Tryz.func7,Tryz.ntmps7
 go_wp2_with fail
 refine CS.out.mono ?_;rintro e w1 ⟨⟨bb,rfl,hbb⟩,hb1⟩;have HB1:=hide hb1;clear hb1 CS;cases bb with
 | false=>
  go_wp2;go_ret;exact ⟨rfl,HB1.out⟩
 | true=>
  have cU:=hide (CU.out w1 HB1.out (hbb rfl).1 (hbb rfl).2);clear hbb CU
  go_wp2_with fail
  refine cU.out.mono ?_;rintro e w2 ⟨rfl,hb2⟩;have HB2:=hide (HB1.out.trans (hb2.mono HB1.out.size));clear hb2 cU;go_wp2;go_ret;exact ⟨rfl,HB2.out⟩
theorem lawImports:LawSaid 8:=by
 intro v os w hT h hl hz;have HT:=hide hT;have CS:=hide (small_any v os w h hz hl);have CU:=hide (fun (W:World) (hb:Below w.heap.size w W) (h1:os.length≤262144) (h2:∀o∈os,OpOk o)=>UpTo_four v os 7 (by decide) W (h.below hb) (tabsB (tabs2 hT) hT hb) h1 h2);clear h hT hz;go_enter Tryz.func8,Tryz.ntmps8
 go_wp2_with fail
 refine CS.out.mono ?_;rintro e w1 ⟨⟨bb,rfl,hbb⟩,hb1⟩;have HB1:=hide hb1;clear hb1 CS;cases bb with
 | false=>
  go_wp2;go_ret;exact ⟨rfl,HB1.out⟩
 | true=>
  have cU:=hide (CU.out w1 HB1.out (hbb rfl).1 (hbb rfl).2);clear hbb CU
  go_wp2_with fail
  refine cU.out.mono ?_;rintro e w2 ⟨rfl,hb2⟩;have HB2:=hide (HB1.out.trans (hb2.mono HB1.out.size));clear hb2 cU;go_wp2;go_ret;exact ⟨rfl,HB2.out⟩
theorem lawAll:LawSaid 10:=by
 intro v os w hT h hl hz;have HT:=hide hT;have CS:=hide (small_any v os w h hz hl);have CU:=hide (fun (W:World) (hb:Below w.heap.size w W) (h1:os.length≤262144) (h2:∀o∈os,OpOk o)=>UpTo_all v os W (h.below hb) (tabsB (tabs2 hT) hT hb) h1 h2);clear h hT hz;go_enter Tryz.func10,Tryz.ntmps10
 go_wp2_with fail
 refine CS.out.mono ?_;rintro e w1 ⟨⟨bb,rfl,hbb⟩,hb1⟩;have HB1:=hide hb1;clear hb1 CS;cases bb with
 | false=>
  go_wp2;go_ret;exact ⟨rfl,HB1.out⟩
 | true=>
  have cU:=hide (CU.out w1 HB1.out (hbb rfl).1 (hbb rfl).2);clear hbb CU
  go_wp2_with fail
  refine cU.out.mono ?_;rintro e w2 ⟨rfl,hb2⟩;have HB2:=hide (HB1.out.trans (hb2.mono HB1.out.size));clear hb2 cU;go_wp2;go_ret;exact ⟨rfl,HB2.out⟩
end Go.Proofs.YticfcjmlphhpgaaGreatDoor
