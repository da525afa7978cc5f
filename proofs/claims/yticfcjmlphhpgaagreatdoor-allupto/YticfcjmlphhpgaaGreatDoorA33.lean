import Derived.Test.YticfcjmlphhpgaaGreatDoorA32
set_option maxRecDepth 20000
set_option maxHeartbeats 8000000
namespace Go.Proofs.YticfcjmlphhpgaaGreatDoor
open Go.RowKit Go.Maps
theorem step_empty {B wb:Nat} {bs:List ByteArray} {ls ts:List (Value × Nat)} {vss vbs vls vts:Value} {w:World} (h:WR (fun _=>False) B wb [] bs ls ts vss vbs vls vts w) (o:Opx) (hBw:B≤w.heap.size) (k:Int) (hk:k≠1) :
  Calls Tryz.prog 15 #[.pointer (some ⟨wb,0,none⟩),.agg #[.int .i64 k,.int .i64 o.ia,.int .i64 o.ic,.string o.s,.string o.b,.slice o.la o.ns.length o.lc,.slice o.ma o.ms.length o.mc,.slice o.da o.ds.length o.dc]] w fun e w'=>e=.returned (.bool true)∧LStep B wb [] bs ls ts w w':=by
 have e1:(k == 1)=false:=beq_eq_false_iff_ne.2 hk;obtain ⟨W,hW⟩:∃W,w.alloc (.cells #[.int .i64 k,.int .i64 o.ia,.int .i64 o.ic,.string o.s,.string o.b,.slice o.la o.ns.length o.lc,.slice o.ma o.ms.length o.mc,.slice o.da o.ds.length o.dc] 29)=W:=⟨_,rfl⟩;have hbW:Below w.heap.size w W:=by rw[← hW];exact belA (Below.refl _ w) _
 obtain ⟨o0,_⟩:=eight_new w _ _ _ _ _ _ _ _ 29 W hW;have hWR:=h.below hbW;have s0:=hWR.wbk.cell.1;obtain ⟨sa,sc,hvs,_⟩:=own_sl hWR.rss;rw[hvs]at s0;simp only[List.length_nil]at s0;have H:=hide h;have HBW:=hide hbW;clear h hbW hWR hk hvs;go_enter Tryz.func15,Tryz.ntmps15;go_wp2;go_ret;exact ⟨rfl,LStep.still H.out hBw HBW.out⟩
theorem own_keepT2 {w:World} {B wb n s j:Nat} {vss vbs vls vts v u:Value} {lk:Bool} {xs:List Value} (h:w.ownsRow B 50 s v n xs) (hwb:WBk w wb vss vbs vls vts lk):(w.setCell ⟨wb,j,none⟩ u).ownsRow B 50 s v n xs:=own_keepT h (set_keepT hwb (by decide))
theorem Tryz.info50:(Tryz.prog.info? 50).map (fun i=>(i.zero,i.size,i.bytes))=some (some (.agg #[.pointer none,.pointer none]),2,16):=by kernel_rfl
theorem step_new {B wb:Nat} {prs:List Pr} {bs:List ByteArray} {ls ts:List (Value × Nat)} {vss vbs vls vts:Value} {w:World} (h:WR (fun _=>False) B wb prs bs ls ts vss vbs vls vts w) (o:Opx) (hpl:prs.length≤900000) (hBw:B≤w.heap.size) :
  Calls Tryz.prog 15 #[.pointer (some ⟨wb,0,none⟩),.agg #[.int .i64 1,.int .i64 o.ia,.int .i64 o.ic,.string o.s,.string o.b,.slice o.la o.ns.length o.lc,.slice o.ma o.ms.length o.mc,.slice o.da o.ds.length o.dc]] w fun e w'=>e=.returned (.bool true)∧LStep B wb prs bs ls ts w w':=by
 obtain ⟨i50,hi50,h500,h501,h502⟩:=info_parts Tryz.info50;obtain ⟨W,hW⟩:∃W,w.alloc (.cells #[.int .i64 1,.int .i64 o.ia,.int .i64 o.ic,.string o.s,.string o.b,.slice o.la o.ns.length o.lc,.slice o.ma o.ms.length o.mc,.slice o.da o.ds.length o.dc] 29)=W:=⟨_,rfl⟩;have hbW:Below w.heap.size w W:=by rw[← hW];exact belA (Below.refl _ w) _
 obtain ⟨o0,_⟩:=eight_new w _ _ _ _ _ _ _ _ 29 W hW;obtain ⟨sa,sc,rfl,_⟩:=own_sl h.rss;have H:=hide h;have HBW:=hide hbW;have cN:=hide (NewStore_any W);clear h hbW;go_enter Tryz.func15,Tryz.ntmps15
 go_wp2_with fail
 refine cN.out.mono ?_;rintro e w2 ⟨rfl,hN,hb2⟩;have HB2:=hide (HBW.out.trans (hb2.mono HBW.out.size));have HN:=hide hN;have s2:=(H.out.below HB2.out).wbk.cell.1;have hlt2:w.heap.size≤W.heap.size:=HBW.out.size;clear hN hb2 cN o0 hW;have HR2:=hide (own_below H.out.rss HB2.out);have hsz2:=HB2.out.size
 go_wp2_with (at_builtin;refine wpList_append_own_at _ rfl (.tmp 43) (.tmp 48) 32 rfl B 50 i50 (.agg #[.pointer none,.pointer none]) 2 16 Tryz.underlying32 hi50 h500 h501 h502 rfl (by decide) _ _ _ rfl ((HR2.out.alloc (.cells #[.slice none 0 0] 48)).alloc _) ⟨w2.heap.size+1,0,none⟩ 1 1 [.pointer (some ⟨W.heap.size+1,0,none⟩),.pointer (some ⟨w2.heap.size,0,none⟩)] rfl rfl (cell_two_at _ _ _ _ _ (by simp)) (fun x hx=>by simp at hx;rcases hx with rfl | rfl <;> rfl) (by unfold maxLen;omega) (by omega) (by simp;omega) ?_;intro v5 w5 hown5 hgrow5 hnil5 hat5;obtain ⟨a5,c5,rfl,_⟩:=own_sl hown5;have HO5:=hide hown5;have HG5:=hide hgrow5;have HA5:=hide hat5;have HWB5:Hid (WBk w5 wb (.slice sa prs.length sc) vbs vls vts false):=hide ((((alloc_keepT 36 w2 (.cells #[.slice none 0 0] 48)).trans (alloc_keepT 36 _ _)).trans (grown_keepT ((HR2.out.alloc (.cells #[.slice none 0 0] 48)).alloc _) hgrow5 (by decide)) _ _ _ (H.out.below HB2.out).wbk).trans (H.out.below HB2.out).wbk);have s5:=HWB5.out.cell.1;have f5:=HWB5.out.fro 0;clear hown5 hgrow5 hnil5 hat5 s2)
 have HB3:=hide (belA HB2.out (.cells #[.slice none 0 0] 48));have hr:(w2.alloc (.cells #[.slice none 0 0] 48)).heap[w2.heap.size]?=some (.cells #[.slice none 0 0] 48 (0,0)):=block_new w2 _;have hk:KO (fun k=>k=wb∨(Value.slice sa prs.length sc).ownBlock=some k) (w2.alloc (.cells #[.slice none 0 0] 48)) (w5.setCell ⟨wb,0,none⟩ (.slice a5 (prs.length+1) c5)):=((KO.alloc _).trans (KO.grown HG5.out (fun k hk=>.inr hk))).trans (KO.set (.inl rfl));have hN3:NSt (w2.alloc (.cells #[.slice none 0 0] 48)) (W.heap.size+1) W.heap.size []:=HN.out.below ((Below.refl _ w2).alloc (Nat.le_refl _) _);have HST:Hid (LStep B wb prs bs ls ts w (w5.setCell ⟨wb,0,none⟩ (.slice a5 (prs.length+1) c5))):=hide ⟨_,ls,ts,_,vbs,vls,vts,WR.new H.out HB3.out hN3 hlt2 hr hsz2 hk (set_blk HWB5.out 0 _) (own_keepT2 HO5.out HWB5.out) (OldNew.of (Nat.le_refl _) HA5.out) hBw,by simp,by omega,by omega,(HB3.out.mono hBw).trans (hk.below (Nat.le_trans hBw HB3.out.size) fun k hlt hx=>by
  rcases hx with rfl | hx
  ·have:=H.out.hB;omega
  ·have:=(H.out.rss.lt k hx).1;omega)⟩
 go_ret;exact ⟨rfl,HST.out⟩
theorem wpList_append_nodes {w:World} {ops:Array Oper} {rest:List Oper} {o:Oper} {a:Act} {Q:Exit→Act→World→Prop} (hgd:o.guard=none) (y:Operand) (ho:o.op=.call {callee:=.builtin .append,args:=#[.const (.slice none 0 0),y],argTypes:=#[25,25]}) (ns:List Nd) (v:Value) (hx:a.eval y=v) (hS:SliceN w v ns) (hl:ns.length≤1000000)
  (h:∀a' c' w',w'.ownsRow w.heap.size 42 3 (.slice a' ns.length c') ns.length (flat3 ns)→Below w.heap.size w w'→wpList Tryz.prog ops Q rest (a.put o.dst (.slice a' ns.length c')) w'):wpList Tryz.prog ops Q (o :: rest) a w:=by
 obtain ⟨i42,hi42,h420,h421,h422⟩:=info_parts Tryz.info42;obtain ⟨a1,c1,rfl,hc1,hm1,hnil,hcE⟩:=hS;cases a1 with
 | none=>
  have e2:=hnil rfl;subst e2;have e0:ns=[]:=List.eq_nil_of_length_eq_zero (by omega);subst e0;refine wpList_append_own_none hgd (.const (.slice none 0 0)) y 25 ho w.heap.size 42 i42 3 Tryz.underlying25 hi42 (.slice none 0 0) 0 [] rfl (World.ownsRow_nil _ _ _ _) hx ?_;exact h none 0 w (World.ownsRow_nil _ _ _ _) (Below.refl _ _)
 | some ad=>
  refine wpList_append_own _ hgd (.const (.slice none 0 0)) y 25 ho w.heap.size 42 i42 (.agg #[.string ⟨#[]⟩,.int .i64 0,.string ⟨#[]⟩]) 3 40 Tryz.underlying25 hi42 h420 h421 h422 rfl (by decide) (.slice none 0 0) 0 [] rfl (World.ownsRow_nil _ _ _ _) ad ns.length c1 (flat3 ns) hx (flat3_length ns) ?_ (flat3_one _) (by unfold maxLen;omega) (by omega) (Nat.le_refl _) (fun v' w' h1 h2 _=>?_)
  ·by_cases hp:0<ns.length
   ·obtain ⟨b1,off1,hba,_,hC⟩:=hcE hp;injection hba with hba
    subst hba;exact hC.cells
   ·intro j u hj;have e0:ns=[]:=List.eq_nil_of_length_eq_zero (by omega);subst e0;simp[flat3]at hj
  ·rw[Nat.zero_add,List.nil_append]at h1;obtain ⟨a',c',rfl,_⟩:=own_sl h1;exact h a' c' w' h1 ((Below.refl _ w).grown h2 (Nat.le_refl _) (fun k hk=>by cases hk))
theorem cellM {w w':World} {b:Nat} {es:Array MapEntry} {c:Nat} (hb:w.heap[b]?=some (.map es c)) (hk:KBz b w w') {k off:Nat} {u:Value} (h:w.cell? ⟨k,off,none⟩=some u):w'.cell? ⟨k,off,none⟩=some u:=by
 have hne:k≠b:=fun e=>by
  subst e;simp only[World.cell?,hb]at h;cases h
 rw[cell_blk (hk.blk k (World.block_lt_of_cell? _ _ h) hne)];exact h
theorem WR.fresh {A:Nat→Prop} {B wb:Nat} {prs:List Pr} {bs:List ByteArray} {ls ts:List (Value × Nat)} {vss vbs vls vts:Value} {w:World} (h:WR A B wb prs bs ls ts vss vbs vls vts w) (hA:∀k,A k→k<w.heap.size):∀k,w.heap.size≤k→FW A wb vss vbs vls vts k:=fun k hk=>by
 refine ⟨fun ha=>by have:=hA k ha;omega,fun e=>?_,fun e=>?_,fun e=>?_,fun e=>?_,fun e=>?_⟩
 ·have:=lt_of_block h.wbk;omega
 ·have:=(h.rss.lt k e).2;omega
 ·have:=(h.rbs.lt k e).2;omega
 ·have:=(h.rls.lt k e).2;omega
 ·have:=(h.rts.lt k e).2;omega
theorem fin_ins {B wb:Nat} {prs:List Pr} {bs:List ByteArray} {ls ts:List (Value × Nat)} {vss vbs vls vts:Value} {W:World} (v1:Value) (ns:List Nd) (v2:Value) (n2:Nat) (xs:List Value) (hA:WR (fun k=>v1.ownBlock=some k∨v2.ownBlock=some k) B wb prs bs ls ts vss vbs vls vts W) {B1 B2:Nat} (h1:W.ownsRow B1 42 3 v1 ns.length (flat3 ns)) (h2:W.ownsRow B2 9 1 v2 n2 xs) (hB1:B≤B1) (hB2:B≤B2) (hs1:B1≤W.heap.size) (hs2:B2≤W.heap.size) (hn:ns.length≤2000000) (hn2:n2≤2000000) (hl:ls.length≤900000) (htl:ts.length≤900000) :
  Calls Tryz.prog 21 #[.pointer (some ⟨wb,0,none⟩),v1] W fun e w8=>e=.returned (.tuple #[])∧Calls Tryz.prog 22 #[.pointer (some ⟨wb,0,none⟩),v2] w8 fun e w9=>e=.returned (.tuple #[])∧∃ls' ts' vls' vts',WR (fun _=>False) B wb prs bs ls' ts' vss vbs vls' vts' w9∧ls'.length≤ls.length+1∧ts'.length≤ts.length+1∧Below B W w9:=by
 refine (nodesW (A':=fun k=>v2.ownBlock=some k) hA v1 ns h1 hB1 hs1 (fun g hg=>.inl hg) (fun k hk=>⟨.inr hk,(h2.lt k hk).2,own_apart h1 h2 (by decide) hk⟩) hn (by omega)).mono ?_;rintro e w8 ⟨rfl,ts',vts',h8,hts,hk8⟩;have h28:=own_keepT h2 (hA.koN h1 hk8 (t:=9) (by decide) (by decide) (by decide));have hb8:=hA.belN h1 hB1 (Nat.le_trans hB1 hs1) hk8;refine ⟨rfl,?_⟩;refine (mineW (A':=fun _=>False) h8 v2 h28 hB2 (Nat.le_trans hs2 hk8.size) (fun g hg=>hg) (fun k hk=>hk.elim) hn2 (by omega)).mono ?_;rintro e w9 ⟨rfl,ls',vls',h9,hls,hk9⟩;have hb9:=h8.belM h28 hB2 (Nat.le_trans (Nat.le_trans hB2 hs2) hk8.size) hk9;exact ⟨rfl,ls',ts',vls',vts',h9,by omega,by omega,hb8.trans hb9⟩
theorem OpOk.ent {o:Opx} (h:OpOk o):OkX ⟨o.s,o.ns,o.ms⟩:=⟨by have:=h.s;show o.s.size≤_;omega,⟨by have:=h.ns.1;show o.ns.length≤_;omega,fun n hn=>by have:=h.ns.2 n hn;omega⟩,h.ns.2,by have:=h.ms.1;show o.ms.length≤_;omega,fun r hr=>by have:=h.ms.2 r hr;omega⟩
theorem step_insert {B wb:Nat} {prs:List Pr} {bs:List ByteArray} {ls ts:List (Value × Nat)} {vss vbs vls vts:Value} {w:World} (h:WR (fun _=>False) B wb prs bs ls ts vss vbs vls vts w) (o:Opx) (hA:OpAt w o) (hO:OpOk o) (hT:Lib.Utf8Tabs 0 1 w) (hpl:prs.length≤900000) (hl:ls.length≤900000) (htl:ts.length≤900000) (hBw:B≤w.heap.size) (hpos:0<prs.length) :
  Calls Tryz.prog 15 #[.pointer (some ⟨wb,0,none⟩),.agg #[.int .i64 2,.int .i64 o.ia,.int .i64 o.ic,.string o.s,.string o.b,.slice o.la o.ns.length o.lc,.slice o.ma o.ms.length o.mc,.slice o.da o.ds.length o.dc]] w fun e w'=>e=.returned (.bool true)∧LStep B wb prs bs ls ts w w':=by
 have hi:=pickN_lt o.ia hpos;obtain ⟨W,hW⟩:∃W,w.alloc (.cells #[.int .i64 2,.int .i64 o.ia,.int .i64 o.ic,.string o.s,.string o.b,.slice o.la o.ns.length o.lc,.slice o.ma o.ms.length o.mc,.slice o.da o.ds.length o.dc] 29)=W:=⟨_,rfl⟩;have hbW:Below w.heap.size w W:=by rw[← hW];exact belA (Below.refl _ w) _
 obtain ⟨o0,o1,o2,o3,o4,o5,o6,o7⟩:=eight_new w _ _ _ _ _ _ _ _ 29 W hW;have hWR:=h.below hbW;have cK:=fun V=>pick_det o.ia prs.length hpos (by omega) hA.ia V
 obtain ⟨g,cap,hvs,_⟩:=own_form hWR.rss hpos;have s0:=hWR.wbk.cell.1;rw[hvs]at s0;have hrow:=hWR.rss;rw[hvs]at hrow;obtain ⟨p0,p1⟩:=own_cellsP hrow (pickN o.ia prs.length) hi;have hnz:((prs.length:Int) == 0)=false:=beq_eq_false_iff_ne.2 (by omega);have H:=hide h;have HA:=hide hA;have HO:=hide hO;have HT:=hide hT;have HBW:=hide hbW;have HRG:=hide (And.intro s0 (And.intro o1 (And.intro p0 (And.intro p1 cK))));obtain ⟨P,hP⟩:∃P,prs[pickN o.ia prs.length]=P:=⟨_,rfl⟩;have hPm:P∈prs:=by rw[← hP];exact List.getElem_mem _
 have HPM:=hide hPm;rw[hP]at HRG;clear h hA hO hT hbW hWR cK hrow o1 o2 o4 o7 p0 p1 hvs hPm;go_enter Tryz.func15,Tryz.ntmps15;go_wp2;refine wp_mono (reg15_10 wb w.heap.size g prs.length cap (pickN o.ia prs.length) P.q P.r o.ia W hi HRG.out.1 HRG.out.2.1 HRG.out.2.2.1 HRG.out.2.2.2.1 HRG.out.2.2.2.2 _ _ _ _ _ _ _ _ _ _ _ _ _ _ _ _ _ _ _ _ _ _ _ _ _ _ _ _ _ _ _ _ _ _ _ _ _ _ _ _ _ _ _ _ _ _ _ _ _ _ _ _ _ _ _ _ _ _ _ _ _ _ _ _ _ _ _ _ _ _ _ _ _ _ _ _ _ _ _ _ _ _ _ _ _ _ _ _ _ _ _ _ _ _ _ _ _ _ _ _ _ _ _ _ _ _ _ _ _ _ _ _ _ _ _ _ _ _ _ _ _ _ _ _ _ _ _ _ _ _ _ _ _ _ _ _ _ _ _ _ _ _ _ _ _ _ _ _ _ _ _ _ _ _ _ _ _ _ _ _ _ _ _ _ _ _ _ _ _ _ _ _ _ _ _ _ _ _ _ _ _ _ _ _ _ _ _ _ _ _ _ _ _ _ _ _ _ _ _ _ _ _ _ _ _ _ _ _ _ _ _ _ _ _ _ _ _ _ _ _ _ _ _ _ _ _ _ _ _ _ _ _ _ _ _ _ _ _ _ _ _ _ _ _ _ _ _ _ _ _ _ _ _ _ _ _ _ _ ) (reg_then ?_);rintro a w2 ⟨⟨v58,v59,v60,v61,v62,v63,v64,v65,v66,v67,v68,v69,v70,v71,rfl⟩,hb2,hp2⟩;have HB2:=hide (HBW.out.trans (hb2.mono HBW.out.size));have q0:w2.cell? ⟨W.heap.size,0,none⟩=some (.pointer (some ⟨P.q,0,none⟩)):=by simp[World.cell?,hp2]
 have q1:w2.cell? ⟨W.heap.size,1,none⟩=some (.pointer (some ⟨P.r,0,none⟩)):=by simp[World.cell?,hp2]
 have x0:=cellB hb2 o0;have x3:=cellB hb2 o3;have x5:=cellB hb2 o5;have x6:=cellB hb2 o6;clear hp2 hb2 o0 o3 o5 o6 HRG hW hnz s0 HBW;have hx:=HO.out.ent;have hnl:=HO.out.ns.1;have hml:=HO.out.ms.1
 go_wp2_with (at_builtin;first
  | (refine wpList_append_nodes rfl (.tmp 77) rfl o.ns _ rfl (HA.out.l.below HB2.out) (by omega) ?_;intro a5 c5 w5 hown5 hb5;have HV5:=hide hown5;have H25:=hide hb5;have y0:=cellB hb5 q0;have y1:=cellB hb5 q1;have y3:=cellB hb5 x3;have y5:=cellB hb5 x5;have y6:=cellB hb5 x6;clear hown5 hb5 q0 q1 x0 x3 x5 x6)
  | (refine wpList_append_strs rfl (.tmp 80) rfl o.ms _ rfl (HA.out.m.below (HB2.out.trans (H25.out.mono HB2.out.size))) HA.out.mnil (by omega) ?_;intro a6 c6 w6 hown6 hb6;have HV6:=hide hown6;have H56:=hide hb6;have z0:=cellB hb6 y0;have z1:=cellB hb6 y1;have z3:=cellB hb6 y3;have z5:=cellB hb6 y5;have z6:=cellB hb6 y6;clear hown6 hb6 y0 y1 y3 y5 y6))
 have hb6:Below w.heap.size w w6:=(HB2.out.trans (H25.out.mono HB2.out.size)).trans (H56.out.mono (Nat.le_trans HB2.out.size H25.out.size));have hv5:=own_below HV5.out H56.out;have hv6:=HV6.out;have hWR6:WR (fun k=>(Value.slice a5 o.ns.length c5).ownBlock=some k∨(Value.slice a6 o.ms.length c6).ownBlock=some k) B wb prs bs ls ts vss vbs vls vts w6:=(H.out.avoid (A':=fun k=>(Value.slice a5 o.ns.length c5).ownBlock=some k∨(Value.slice a6 o.ms.length c6).ownBlock=some k) (fun k hk=>by
  rcases hk with hk | hk
  ·exact Nat.le_trans HB2.out.size (hv5.lt k hk).1
  ·exact Nat.le_trans (Nat.le_trans HB2.out.size H25.out.size) (hv6.lt k hk).1)).below hb6
 have hF6:=hWR6.fresh (fun k hk=>by
  rcases hk with hk | hk
  ·exact (hv5.lt k hk).2
  ·exact (hv6.lt k hk).2)
 have hPO6:=hWR6.pr P HPM.out;obtain ⟨er,her⟩:∃er,(insertF P.S ⟨o.s,o.ns,o.ms⟩).1=er:=⟨_,rfl⟩;have cX:=hide (narInsertF_any _ P.q P.b P.S ⟨o.s,o.ns,o.ms⟩ (.slice a5 o.ns.length c5) (.slice a6 o.ms.length c6) w6 hPO6.n hF6 (tabsB (tabs2 HT.out) HT.out hb6) (own_nodes hv5).1 hx.small (own_strs hv6) (by show o.ms.length≤_;omega) (fun r hr=>by have:=HO.out.ms.2 r hr;omega) (fun e he=>by have:=hPO6.ok.ok.closed.refs e he;omega) (by have:=HO.out.s;show o.s.size≤_;omega));rw[her]at cX;have HPO6:=hide hPO6;have HWR6:=hide hWR6;have HF6:=hide hF6;have HB6:=hide hb6;have HX:=hide hx;have HV56:=hide hv5;have h2s:=HB2.out.size;have h5s:=H25.out.size;have h6s:=H56.out.size;clear hPO6 hWR6 hF6 hb6 hx hv5 hv6 HV5 HB2 H25 H56;refine cX.out.mono ?_;rintro e w7 ⟨rfl,hN7,hW7⟩;obtain ⟨es,ec,hmb⟩:=HPO6.out.n.2.obj;have t1:=cellM hmb hW7.1 z1;have t3:=cellM hmb hW7.1 z3;have t5:=cellM hmb hW7.1 z5;have t6:=cellM hmb hW7.1 z6;have hR7:=HPO6.out.other hW7;have hL7:=(HA.out.l.below HB6.out).kf (P:=fun _=>True) (fun _ _ _ _=>trivial) (KF.map hmb hW7.1);have hM7:=(HA.out.m.below HB6.out).kf (P:=fun _=>True) (fun _ _ _ _=>trivial) (KF.map hmb hW7.1);have cM:=hide (rInsertF_any _ P.r P.S ⟨o.s,o.ns,o.ms⟩ _ _ w7 hR7 (fun k hk=>HF6.out k (Nat.le_trans hW7.1.size hk)) HPO6.out.ok.ok.good hL7 HX.out.small (fun hw=>by have:=HX.out.bulk hw;omega) hM7 (by show o.ms.length≤_;omega) (by have:=HO.out.s;show o.s.size≤_;omega) HA.out.mnil);rw[her]at cM;have HN7:=hide hN7;have HW7:=hide hW7;have HK7:=hide (fun t=>KBz.keepM hmb hW7.1 t);have HR7:=hide hR7;clear hN7 hW7 hmb hR7 hL7 hM7 z0 z1 z3 z5 z6 cX
 go_wp2_with fail
 refine cM.out.mono ?_;rintro e w8 ⟨rfl,hR8,hW8⟩;obtain ⟨ra8,rn8,rc8,hrb⟩:=HR7.out.obj;have hK8:∀t,t≠48→KeepT t w6 w8:=fun t ht=>(HK7.out t).trans (KBz.keepS hrb hW8.1 ht)
 have hWR8:WR (fun k=>(Value.slice a5 o.ns.length c5).ownBlock=some k∨(Value.slice a6 o.ms.length c6).ownBlock=some k) B wb (prs.set (pickN o.ia prs.length) ⟨P.q,P.b,P.r,(insertF P.S ⟨o.s,o.ns,o.ms⟩).2⟩) bs ls ts vss vbs vls vts w8:=by
  subst hP;exact HWR6.out.ins (pickN o.ia prs.length) hi _ (HPO6.out.ok.insert _) HW7.out HN7.out hW8 hR8
 have hs8:w6.heap.size≤w8.heap.size:=Nat.le_trans HW7.out.1.size hW8.1.size;have CF:=hide (fin_ins _ o.ns _ _ _ hWR8 (own_keepT HV56.out (hK8 42 (by decide))) (own_keepT HV6.out (hK8 9 (by decide))) (by omega) (by omega) (by omega) (by omega) (by omega) (by omega) hl htl);have HB8:Hid (Below B w w8):=hide (((HB6.out.mono hBw).trans (HW7.out.2 B HPO6.out.bb)).trans (hW8.2 B HPO6.out.br));clear hR8 hW8 hrb hK8 hWR8 cM t1 t3 t5 t6
 go_wp2_with fail
 refine CF.out.mono ?_;rintro e w9 ⟨rfl,c22⟩;have C22:=hide c22;clear c22 CF
 go_wp2_with fail
 refine C22.out.mono ?_;rintro e w10 ⟨rfl,ls',ts',vls',vts',h1,h2,h3,h4⟩;have HST:Hid (LStep B wb prs bs ls ts w w10):=hide ⟨_,ls',ts',vss,vbs,vls',vts',h1,by rw[List.length_set];omega,h2,h3,HB8.out.trans h4⟩;clear h1 h2 h3 h4 C22;go_wp2;go_ret;exact ⟨by simp,HST.out⟩
theorem step_three {B wb:Nat} {prs:List Pr} {bs:List ByteArray} {ls ts:List (Value × Nat)} {vss vbs vls vts:Value} {w:World} (h:WR (fun _=>False) B wb prs bs ls ts vss vbs vls vts w) (o:Opx) (hA:OpAt w o) (hO:OpOk o) (hT:Lib.Utf8Tabs 0 1 w) (hpl:prs.length≤900000) (hl:ls.length≤900000) (htl:ts.length≤900000) (hBw:B≤w.heap.size) (hk:o.kind≠6∧o.kind≠7) :
  Calls Tryz.prog 15 #[.pointer (some ⟨wb,0,none⟩),.agg #[.int .i64 o.kind,.int .i64 o.ia,.int .i64 o.ic,.string o.s,.string o.b,.slice o.la o.ns.length o.lc,.slice o.ma o.ms.length o.mc,.slice o.da o.ds.length o.dc]] w fun e w'=>e=.returned (.bool true)∧LStep B wb prs bs ls ts w w':=by
 by_cases k1:o.kind=1
 ·rw[k1];exact step_new h o hpl hBw
 by_cases hp:prs.length=0
 ·have e0:prs=[]:=List.eq_nil_of_length_eq_zero hp;subst e0;exact step_empty h o hBw o.kind k1
 have hpos:0<prs.length:=by omega
 by_cases k2:o.kind=2
 ·rw[k2];exact step_insert h o hA hO hT hpl hl htl hBw hpos
 by_cases k3:o.kind=3
 ·rw[k3];exact step_get h o hA hO hT hpl hl htl hBw hpos
 by_cases k4:o.kind=4
 ·rw[k4];exact step_paths h o hA hO hT hpl hl htl hBw hpos
 by_cases k5:o.kind=5
 ·rw[k5];exact step_closure h o hA hO hT hpl hl htl hBw hpos
 exact step_none h o hA hO hT hpl hl htl hBw hpos o.kind ⟨k1,k2,k3,k4,k5,hk.1,hk.2⟩
theorem reg16_17 (nb k:Nat) (w:World) (hk:k≤1000000) (c0:w.cell? ⟨nb,0,none⟩=some (.string (markB k))) (c1:w.cell? ⟨nb,1,none⟩=some (.int .i64 0)) (c2:w.cell? ⟨nb,2,none⟩=some (.string ⟨#[]⟩)) (u0 u1 u2 u3 u4 u5 u6 u8 u9 u11 u12 u13 u14 u15 u16 u17 u18 u19 u20 u21 u22 u23 u24 u25 u26 u27 u28 u29 u30 u31 u32 u33 u34 u35 u36 u37 u38 u39 u40 u41 u42 u43 u44 u45 u46 u47 u48 u49 u50 u51 u52 u53 u54 u55:Value) :
  Code.wp Tryz.prog (regC Tryz.f16 17) (Exit.then (fun a w'=>(∃v49 v50 v51 v52:Value,a=⟨#[u0,u1,u2,u3,u4,u5,u6,.int .i64 (k:Nat),u8,u9,.pointer (some ⟨nb,0,none⟩),u11,u12,u13,u14,u15,u16,u17,u18,u19,u20,u21,u22,u23,u24,u25,u26,u27,u28,u29,u30,u31,u32,u33,u34,u35,u36,u37,u38,u39,u40,u41,u42,u43,u44,u45,u46,u47,u48,v49,v50,v51,v52,.bool false,u54,u55],[]⟩)∧Below w.heap.size w w') (fun _ _ _=>False)) ⟨#[u0,u1,u2,u3,u4,u5,u6,.int .i64 (k:Nat),u8,u9,.pointer (some ⟨nb,0,none⟩),u11,u12,u13,u14,u15,u16,u17,u18,u19,u20,u21,u22,u23,u24,u25,u26,u27,u28,u29,u30,u31,u32,u33,u34,u35,u36,u37,u38,u39,u40,u41,u42,u43,u44,u45,u46,u47,u48,u49,u50,u51,u52,u53,u54,u55],[]⟩ w:=by
 unfold regC
 conv=>arg 2;whnf
 have CM:=hide (fun V=>mark_any k hk V);have HW0:=hide (drewB w);generalize markB k=m at c0 CM
 go_region_held3 (fun w'=>w'.cell? ⟨nb,0,none⟩=some (.string m)∧w'.cell? ⟨nb,1,none⟩=some (.int .i64 0)∧w'.cell? ⟨nb,2,none⟩=some (.string ⟨#[]⟩)) (go_keep) (first
  | (go_at_call 34;refine (CM.out _).mono ?_;rintro e w1 ⟨rfl,hb1⟩;have HW1:=hide (HW0.out.trans (hb1.mono HW0.out.size));have g0:=cellB HW1.out c0;have g1:=cellB HW1.out c1;have g2:=cellB HW1.out c2;clear hb1))
 all_goals exact ⟨⟨_,_,_,_,rfl⟩,HW1.out⟩
theorem own_max {w:World} {B s n:Nat} {e:TypeId} {v:Value} {xs:List Value} (h:w.ownsRow B e s v n xs):n≤9223372036854775807:=by
 rcases h.2 with ⟨_,h0⟩ | ⟨_,_,_,_,_,_,h1,h2,_⟩
 ·omega
 ·unfold maxLen at h2;omega
theorem own_cell1 {w:World} {B e g cap n j:Nat} {xs:List Value} (h:w.ownsRow B e 1 (.slice (some ⟨g,0,none⟩) n cap) n xs) (hj:j<n):∃u,xs[j]?=some u∧w.cell? ⟨g,j,none⟩=some u:=by
 have hl:j<xs.length:=by have:=h.1;omega
 exact ⟨xs[j],List.getElem?_eq_getElem hl,by rw[h.cellAt j (by omega)];exact List.getElem?_eq_getElem hl⟩
theorem looks_any {B wb:Nat} {prs:List Pr} {bs:List ByteArray} {ls ts:List (Value × Nat)} {vss vbs vls vts:Value} {w:World} (h:WR (fun _=>False) B wb prs bs ls ts vss vbs vls vts w) (hl:ls.length≤900000) (htl:ts.length≤900000) :
  Calls Tryz.prog 16 #[.pointer (some ⟨wb,0,none⟩)] w fun e w'=>e=.returned (.bool true)∧Below w.heap.size w w':=by
 have H:=hide h;obtain ⟨la,lc,hlv,_⟩:=own_sl h.rls;obtain ⟨ta,tc,htv,_⟩:=own_sl h.rts;subst hlv;subst htv;have w2:=h.wbk.cell.2.2.1;have w3:=h.wbk.cell.2.2.2.1;clear h;go_enter Tryz.func16,Tryz.ntmps16;go_wp2
 go_loopw [16] (fun iv w4=>∃k:Nat,k≤ls.length∧iv=.int .i64 k∧Hid (Below w.heap.size w w4)) (fun iv _=>ls.length - (intOf iv).toNat)
 case atStart=>exact ⟨0,by omega,rfl,hide (Below.refl _ _)⟩
 case round=>
  obtain ⟨k,hk,rfl,HB4⟩:=hrel
  by_cases hlt:k<ls.length
  ·have hltz:(k:Int)<ls.length:=by omega
   have hrow:=own_below (H.out.lrow k hlt) HB4.out;have hkn:=own_max hrow;have hls:=own_below H.out.rls HB4.out;obtain ⟨g,cap,hge,_⟩:=own_form hls (by omega);injection hge with hge _ hcc
   subst hge;subst hcc;obtain ⟨u,hu,c0⟩:=own_cell1 hls hlt;rw[List.getElem?_map,List.getElem?_eq_getElem hlt]at hu;simp only[Option.map_some,Option.some.injEq]at hu;subst hu;obtain ⟨va,vc,hva,_⟩:=own_sl hrow;rw[hva]at c0 hrow;have HROW:=hide (And.intro hrow HB4.out);generalize ls[k].2=n at *;clear hrow hva hls;obtain ⟨w5,hw5⟩:∃w5,w5=wr:=⟨_,rfl⟩;subst hw5;go_wp2
   go_loopw [23] (fun jv w6=>∃j:Nat,j≤n∧jv=.int .i64 j∧Hid (Below w5.heap.size w5 w6)) (fun jv _=>n - (intOf jv).toNat)
   case atStart=>exact ⟨0,by omega,rfl,hide (Below.refl _ _)⟩
   case round=>
    obtain ⟨j,hj,rfl,HB6⟩:=hrel
    by_cases hltj:j<n
    ·have hltjz:(j:Int)<n:=by omega
     have hrow6:=own_below HROW.out.1 HB6.out;obtain ⟨g6,cap6,hge6,_⟩:=own_form hrow6 (by omega);injection hge6 with hge6 _ hcc6
     subst hge6;subst hcc6;obtain ⟨u6,hu6,c6⟩:=own_cell1 hrow6 hltj;rw[List.getElem?_replicate,if_pos hltj]at hu6;simp only[Option.some.injEq]at hu6;subst hu6;have cM:=hide (mark_any k (by omega) wr);generalize markB k=m at cM c6;clear hrow6
     go_wp2_with fail
     refine cM.out.mono ?_;rintro e w7 ⟨rfl,hb7⟩;have HB7:=hide (HB6.out.trans (hb7.mono HB6.out.size));clear hb7 cM c6;go_wp2;go_roundw
     case rel=>exact ⟨j+1,by omega,by go_num,HB7⟩
     case measure=>simp[intOf];omega
    ·obtain rfl:j=n:=by omega
     have hltjz:¬ ((j:Nat):Int)<j:=by omega
     have HB7:=hide (HROW.out.2.trans (HB6.out.mono HROW.out.2.size));go_wp2;go_roundw
     case rel=>exact ⟨k+1,by omega,by go_num,HB7⟩
     case measure=>simp[intOf];omega
  ·obtain rfl:k=ls.length:=by omega
   have hltz:¬ ((ls.length:Nat):Int)<ls.length:=by omega
   have w34:=cellB HB4.out w3;go_wp2
   go_loopw [38] (fun iv w4=>∃k:Nat,k≤ts.length∧iv=.int .i64 k∧Hid (Below w.heap.size w w4)) (fun iv _=>ts.length - (intOf iv).toNat)
   case atStart=>exact ⟨0,by omega,rfl,HB4⟩
   case round=>
    obtain ⟨k,hk,rfl,HB5⟩:=hrel;clear HB4 w34
    by_cases hlt:k<ts.length
    ·have hltz:(k:Int)<ts.length:=by omega
     have hrow:=own_below (H.out.trow k hlt) HB5.out;have hkn:=own_max hrow;have hls:=own_below H.out.rts HB5.out;obtain ⟨g,cap,hge,_⟩:=own_form hls (by omega);injection hge with hge _ hcc
     subst hge;subst hcc;obtain ⟨u,hu,c0⟩:=own_cell1 hls hlt;rw[List.getElem?_map,List.getElem?_eq_getElem hlt]at hu;simp only[Option.map_some,Option.some.injEq]at hu;subst hu;obtain ⟨va,vc,hva,_⟩:=own_sl hrow;rw[hva]at c0 hrow;have HROW:=hide (And.intro hrow HB5.out);generalize ts[k].2=n at *;clear hrow hva hls;obtain ⟨w5,hw5⟩:∃w5,w5=wr:=⟨_,rfl⟩;subst hw5;go_wp2
     go_loopw [45] (fun jv w6=>∃j:Nat,j≤n∧jv=.int .i64 j∧Hid (Below w5.heap.size w5 w6)) (fun jv _=>n - (intOf jv).toNat)
     case atStart=>exact ⟨0,by omega,rfl,hide (Below.refl _ _)⟩
     case round=>
      obtain ⟨j,hj,rfl,HB6⟩:=hrel
      by_cases hltj:j<n
      ·have hltjz:(j:Int)<n:=by omega
       have hrow6:=own_below HROW.out.1 HB6.out;obtain ⟨g6,cap6,hge6,_⟩:=own_form hrow6 (by omega);injection hge6 with hge6 _ hcc6
       subst hge6;subst hcc6;obtain ⟨f0,f1,f2⟩:=flat3_get (List.replicate n (markN k)) j (by simp;exact hltj);rw[List.getElem_replicate]at f0 f1 f2;have c60:=(hrow6.cellAt (j*3) (by omega)).trans f0;have c61:=(hrow6.cellAt (j*3+1) (by omega)).trans f1;have c62:=(hrow6.cellAt (j*3+2) (by omega)).trans f2;unfold markN at c60 c61 c62;simp only at c60 c61 c62;have HB7:=hide (belA HB6.out (.cells #[.string (markB k),.int .i64 0,.string ⟨#[]⟩] 42));obtain ⟨d0,d1,d2⟩:=three_new wr (.string (markB k)) (.int .i64 0) (.string ⟨#[]⟩) 42;clear hrow6 f0 f1 f2;go_wp2;refine wp_mono (reg16_17 wr.heap.size k _ (by omega) d0 d1 d2 _ _ _ _ _ _ _ _ _ _ _ _ _ _ _ _ _ _ _ _ _ _ _ _ _ _ _ _ _ _ _ _ _ _ _ _ _ _ _ _ _ _ _ _ _ _ _ _ _ _ _ _ _ _ ) (reg_then ?_);rintro a w8 ⟨⟨v49,v50,v51,v52,rfl⟩,hb8⟩;have HB8:=hide (HB7.out.trans (hb8.mono HB7.out.size));clear hb8 HB7 d0 d1 d2 c60 c61 c62;go_wp2;go_roundw
       case rel=>exact ⟨j+1,by omega,by go_num,HB8⟩
       case measure=>simp[intOf];omega
      ·obtain rfl:j=n:=by omega
       have hltjz:¬ ((j:Nat):Int)<j:=by omega
       have HB7:=hide (HROW.out.2.trans (HB6.out.mono HROW.out.2.size));go_wp2;go_roundw
       case rel=>exact ⟨k+1,by omega,by go_num,HB7⟩
       case measure=>simp[intOf];omega
    ·obtain rfl:k=ts.length:=by omega
     have hltz:¬ ((ts.length:Nat):Int)<ts.length:=by omega
     go_wp2;go_ret;exact ⟨rfl,HB5.out⟩
end Go.Proofs.YticfcjmlphhpgaaGreatDoor
