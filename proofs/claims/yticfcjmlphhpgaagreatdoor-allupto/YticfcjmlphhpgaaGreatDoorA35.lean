import Derived.Test.YticfcjmlphhpgaaGreatDoorA33
import Derived.Test.YticfcjmlphhpgaaGreatDoorA34
set_option maxRecDepth 20000
set_option maxHeartbeats 8000000
namespace Go.Proofs.YticfcjmlphhpgaaGreatDoor
open Go.RowKit Go.Maps
def LStepB (B wb:Nat) (prs:List Pr) (bs:List ByteArray) (ls ts:List (Value × Nat)) (w w':World):Prop:=∃bs',(∀x∈bs',x∈bs∨x.size≤500000)∧bs'.length≤bs.length+1∧∃prs' ls' ts' vss' vbs' vls' vts',WR (fun _=>False) B wb prs' bs' ls' ts' vss' vbs' vls' vts' w'∧prs'.length≤prs.length+1∧ls'.length≤ls.length+1∧ts'.length≤ts.length+1∧Below B w w'
theorem WR.bsN {B wb:Nat} {prs:List Pr} {bs:List ByteArray} {ls ts:List (Value × Nat)} {vss vbs vls vts vbs':Value} {w w':World} {x:ByteArray} (h:WR (fun _=>False) B wb prs bs ls ts vss vbs vls vts w) (hwb:WBk w' wb vss vbs' vls vts false) (hbs:w'.ownsRow B 9 1 vbs' (bs.length+1) (bs.map Value.string++[.string x])) (hk:KO (fun k=>k=wb∨vbs.ownBlock=some k) w w') (ho:OldNew w vbs vbs') :
  WR (fun _=>False) B wb prs (bs++[x]) ls ts vss vbs' vls vts w':=by
 have hX:∀t,t≠36→t≠9→KeepT t w w':=fun t h1 h3=>hk.keepT fun k cs fz hx=>by
  rcases hx with rfl | hx
  ·exact fun hc=>h1 (cells_type hc h.wbk)
  ·exact own_not h.rbs (Ne.symm h3) hx cs fz
 have hvl:∀g,vbs'.ownBlock=some g→g<w.heap.size→vbs.ownBlock=some g:=fun g hg hlt=>by
  rcases ho g hg with h1 | h1
  ·exact h1
  ·omega
 refine ⟨hwb,h.hB,own_keepT h.rss (hX 50 (by decide) (by decide)),by rw[List.length_append,List.length_singleton,List.map_append,List.map_singleton];exact hbs,own_keepT h.rls (hX 26 (by decide) (by decide)),own_keepT h.rts (hX 25 (by decide) (by decide)),fun k hkl=>?_,fun k hkl=>own_keepT (h.trow k hkl) (hX 42 (by decide) (by decide)),fun y hy g hg=>⟨fun hF=>hF,fun hb=>?_⟩,fun _ _ _ _ hF=>hF,fun _ _ hF=>hF,fun p hp=>?_,h.dis⟩
 ·refine own_ko (h.lrow k hkl) hk fun g hg hx=>?_
  rcases hx with rfl | hx
  ·exact own_not (h.lrow k hkl) (by decide) hg _ _ h.wbk
  ·exact (h.lA _ (List.getElem_mem hkl) g hg).2 hx
 ·obtain ⟨k,hkl,rfl⟩:=List.getElem_of_mem hy;exact (h.lA _ hy g hg).2 (hvl g hb ((h.lrow k hkl).lt g hg).2)
 ·refine (h.pr p hp).ko hk (fun k hx hf=>?_) (fun k hx=>?_) (fun k hlt hf=>⟨fun hF=>hF,hf.2.1,hf.2.2.1,fun he=>hf.2.2.2.1 (hvl k he hlt),hf.2.2.2.2⟩)
  ·rcases hx with rfl | hx
   ·exact hf.2.1 rfl
   ·exact hf.2.2.2.1 hx
  ·rcases hx with rfl | hx
   ·exact ⟨fun cs fz hc=>absurd (cells_type hc h.wbk) (by decide),fun cs fz hc=>absurd (cells_type hc h.wbk) (by decide),_,_,_,h.wbk⟩
   ·obtain ⟨cur,hc⟩:=own_block h.rbs hx;exact ⟨own_not h.rbs (by decide) hx,own_not h.rbs (by decide) hx,_,_,_,hc⟩
theorem LStep.b {B wb:Nat} {prs:List Pr} {bs:List ByteArray} {ls ts:List (Value × Nat)} {w w':World} (h:LStep B wb prs bs ls ts w w'):LStepB B wb prs bs ls ts w w':=⟨bs,fun _ hx=>.inl hx,Nat.le_succ _,h⟩
theorem step_export {B wb:Nat} {prs:List Pr} {bs:List ByteArray} {ls ts:List (Value × Nat)} {vss vbs vls vts:Value} {w:World} (h:WR (fun _=>False) B wb prs bs ls ts vss vbs vls vts w) (o:Opx) (hA:OpAt w o) (hO:OpOk o) (hT:Lib.Utf8Tabs 0 1 w) (hpl:prs.length≤900000) (_hl:ls.length≤900000) (_htl:ts.length≤900000) (hbl:bs.length≤900000) (hBw:B≤w.heap.size) (hpos:0<prs.length) :
  Calls Tryz.prog 15 #[.pointer (some ⟨wb,0,none⟩),.agg #[.int .i64 6,.int .i64 o.ia,.int .i64 o.ic,.string o.s,.string o.b,.slice o.la o.ns.length o.lc,.slice o.ma o.ms.length o.mc,.slice o.da o.ds.length o.dc]] w fun e w'=>e=.returned (.bool true)∧LStepB B wb prs bs ls ts w w':=by
 have hi:=pickN_lt o.ia hpos;obtain ⟨W,hW⟩:∃W,w.alloc (.cells #[.int .i64 6,.int .i64 o.ia,.int .i64 o.ic,.string o.s,.string o.b,.slice o.la o.ns.length o.lc,.slice o.ma o.ms.length o.mc,.slice o.da o.ds.length o.dc] 29)=W:=⟨_,rfl⟩;have hbW:Below w.heap.size w W:=by rw[← hW];exact belA (Below.refl _ w) _
 obtain ⟨o0,o1,o2,o3,o4,o5,o6,o7⟩:=eight_new w _ _ _ _ _ _ _ _ 29 W hW;have hWR:=h.below hbW;have cK:=fun V=>pick_det o.ia prs.length hpos (by omega) hA.ia V
 obtain ⟨g,cap,hvs,_⟩:=own_form hWR.rss hpos;have s0:=hWR.wbk.cell.1;rw[hvs]at s0;have hrow:=hWR.rss;rw[hvs]at hrow;obtain ⟨p0,p1⟩:=own_cellsP hrow (pickN o.ia prs.length) hi;have hnz:((prs.length:Int) == 0)=false:=beq_eq_false_iff_ne.2 (by omega);have H:=hide h;have HA:=hide hA;have HO:=hide hO;have HT:=hide hT;have HBW:=hide hbW;have HRG:=hide (And.intro s0 (And.intro o1 (And.intro p0 (And.intro p1 cK))));obtain ⟨P,hP⟩:∃P,prs[pickN o.ia prs.length]=P:=⟨_,rfl⟩;have hPm:P∈prs:=by rw[← hP];exact List.getElem_mem _
 have HPM:=hide hPm;rw[hP]at HRG;clear h hA hO hT hbW hWR cK hrow o1 o2 o4 o7 p0 p1 hvs hPm;go_enter Tryz.func15,Tryz.ntmps15;go_wp2;refine wp_mono (reg15_10 wb w.heap.size g prs.length cap (pickN o.ia prs.length) P.q P.r o.ia W hi HRG.out.1 HRG.out.2.1 HRG.out.2.2.1 HRG.out.2.2.2.1 HRG.out.2.2.2.2 _ _ _ _ _ _ _ _ _ _ _ _ _ _ _ _ _ _ _ _ _ _ _ _ _ _ _ _ _ _ _ _ _ _ _ _ _ _ _ _ _ _ _ _ _ _ _ _ _ _ _ _ _ _ _ _ _ _ _ _ _ _ _ _ _ _ _ _ _ _ _ _ _ _ _ _ _ _ _ _ _ _ _ _ _ _ _ _ _ _ _ _ _ _ _ _ _ _ _ _ _ _ _ _ _ _ _ _ _ _ _ _ _ _ _ _ _ _ _ _ _ _ _ _ _ _ _ _ _ _ _ _ _ _ _ _ _ _ _ _ _ _ _ _ _ _ _ _ _ _ _ _ _ _ _ _ _ _ _ _ _ _ _ _ _ _ _ _ _ _ _ _ _ _ _ _ _ _ _ _ _ _ _ _ _ _ _ _ _ _ _ _ _ _ _ _ _ _ _ _ _ _ _ _ _ _ _ _ _ _ _ _ _ _ _ _ _ _ _ _ _ _ _ _ _ _ _ _ _ _ _ _ _ _ _ _ _ _ _ _ _ _ _ _ _ _ _ _ _ _ _ _ _ _ _ _ _ _ ) (reg_then ?_);rintro a w2 ⟨⟨v58,v59,v60,v61,v62,v63,v64,v65,v66,v67,v68,v69,v70,v71,rfl⟩,hb2,hp2⟩;have HB2:=hide (HBW.out.trans (hb2.mono HBW.out.size));have q0:w2.cell? ⟨W.heap.size,0,none⟩=some (.pointer (some ⟨P.q,0,none⟩)):=by simp[World.cell?,hp2]
 have q1:w2.cell? ⟨W.heap.size,1,none⟩=some (.pointer (some ⟨P.r,0,none⟩)):=by simp[World.cell?,hp2]
 have x0:=cellB hb2 o0;have x3:=cellB hb2 o3;have x5:=cellB hb2 o5;have x6:=cellB hb2 o6;clear hp2 hb2 o0 o3 o5 o6 HRG hW hnz s0 HBW;obtain ⟨i9,hi9,h90,h91,h92⟩:=info_parts Tryz.info9;obtain ⟨ba,bc,hvb,_⟩:=own_sl H.out.rbs;subst hvb;have hPO:=H.out.pr P HPM.out;have hml:=HO.out.ms.1;obtain ⟨er,her⟩:∃er:Int,(if lackR P.S o.ms=true then 15 else 0)=er:=⟨_,rfl⟩;have hz:er=15∨er=0:=by rw[← her];split;exact .inl rfl;exact .inr rfl
 have cX:=hide (narExport_any P.q P.b P.S _ o.ms w2 (hPO.n.st.below HB2.out) hPO.ok.ok.closed (HA.out.m.below HB2.out) (by omega) (fun r hr=>by have:=HO.out.ms.2 r hr;omega) (OutOk.of hPO.ok _));have cM:=hide (fun V (hV:Below w.heap.size w V)=>rExport_any P.r P.S _ o.ms V (hPO.r.st.below hV) hPO.ok.ok.closed hPO.ok.ok.good (HA.out.m.below hV) (by omega) (OutOk.of hPO.ok _));have HSZ:Hid (∀out,ClosR P.S o.ms out→(exportB P.S o.ms out).size≤500000):=hide (fun out ho=>export_small hPO.ok _ _ ho);rw[her]at cX cM;clear hPO her
 go_wp2_with fail
 refine cX.out.mono ?_;rintro e w3 ⟨out,hF,rfl,hb3⟩;have y1:=cellB hb3 q1;have z6:=cellB hb3 x6;have HB3:=hide (HB2.out.trans (hb3.mono HB2.out.size));have HF:=hide hF;clear hb3 cX q0 q1 x0 x3 x5 x6 hF
 go_wp2_with fail
 refine (cM.out _ HB3.out).mono ?_;rintro e w4 ⟨out4,hF4,rfl,hb4⟩;have hoo:out4=out:=hF4.uniq HF.out;subst hoo;have hsz:=HSZ.out _ hF4;have HB4:=hide (HB3.out.trans (hb4.mono HB3.out.size));clear HSZ hb4 cM y1 z6 HB3 hF4 HF;generalize exportB P.S o.ms out4=t at hsz ⊢;have htt:(t.toList == t.toList)=true:=by simp
 have HW4:=hide (H.out.below HB4.out);rcases hz with rfl | rfl
 ·go_wp2;go_ret;exact ⟨rfl,(LStep.still H.out hBw HB4.out).b⟩
 ·have s4:=HW4.out.wbk.cell.2.1;have hsz4:=HB4.out.size
  go_wp2_with (at_builtin;refine wpList_append_own_at _ rfl (.tmp 182) (.tmp 184) 26 rfl B 9 i9 (.string ⟨#[]⟩) 1 16 Tryz.underlying26 hi9 h90 h91 h92 rfl (by decide) _ _ _ rfl (HW4.out.rbs.alloc _) ⟨w4.heap.size,0,none⟩ 1 1 [.string t] rfl rfl (cell_one_at _ _ _ _ rfl) (fun x hx=>by simp at hx;subst hx;rfl) (by unfold maxLen;omega) (by omega) (by simp;omega) ?_;intro v5 w5 hown5 hgrow5 hnil5 hat5;obtain ⟨a5,c5,rfl,_⟩:=own_sl hown5;have HO5:=hide hown5;have HG5:=hide hgrow5;have HA5:=hide hat5;have HWB5:Hid (WBk w5 wb vss (.slice ba bs.length bc) vls vts false):=hide (((alloc_keepT 36 w4 (.cells #[.string t] 9)).trans (grown_keepT (HW4.out.rbs.alloc _) hgrow5 (by decide)) _ _ _ HW4.out.wbk).trans HW4.out.wbk);have s5:=HWB5.out.cell.2.1;have f5:=HWB5.out.fro 1;clear hown5 hgrow5 hnil5 hat5 s4)
  have hk:KO (fun k=>k=wb∨(Value.slice ba bs.length bc).ownBlock=some k) w4 (w5.setCell ⟨wb,1,none⟩ (.slice a5 (bs.length+1) c5)):=((KO.alloc _).trans (KO.grown HG5.out (fun k hk=>.inr hk))).trans (KO.set (.inl rfl));have HST:Hid (LStepB B wb prs bs ls ts w (w5.setCell ⟨wb,1,none⟩ (.slice a5 (bs.length+1) c5))):=hide ⟨bs++[t],fun x hx=>(List.mem_append.1 hx).imp id (fun hx=>by rw[List.mem_singleton]at hx;subst hx;exact hsz),by simp,prs,ls,ts,vss,_,vls,vts,HW4.out.bsN (set_blk HWB5.out 1 _) (own_keepT HO5.out (set_keepT HWB5.out (by decide))) hk (OldNew.of (by simp) HA5.out),by omega,by omega,by omega,(HB4.out.mono hBw).trans (hk.below (Nat.le_trans hBw HB4.out.size) fun k hlt hx=>by
   rcases hx with rfl | hx
   ·have:=H.out.hB;omega
   ·have:=(H.out.rbs.lt k hx).1;omega)⟩
  go_ret;exact ⟨rfl,HST.out⟩
end Go.Proofs.YticfcjmlphhpgaaGreatDoor
