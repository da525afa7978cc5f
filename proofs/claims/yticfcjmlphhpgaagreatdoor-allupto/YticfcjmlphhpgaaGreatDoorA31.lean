import Derived.Test.YticfcjmlphhpgaaGreatDoorA30
import Derived.Deep.CutBlock
set_option maxRecDepth 20000
set_option maxHeartbeats 8000000
namespace Go.Proofs.YticfcjmlphhpgaaGreatDoor
open Go.RowKit
def RefsPost (R X B8:Nat) (s:ByteArray) (v8:Value) (w3:World) (A:List Ent) (p:ByteArray) (st6 st7:Ns) (refs:List ByteArray) (ar:Option Addr) (cr:Nat) (w':World):Prop:=
 QR B8 R w' s v8 st7∧FRX R X w3 w'∧w'.heap[X]?=some (.cells #[.string p,.slice none 0 0,.slice ar refs.length cr] 76 (0,0))∧w'.ownsRow (X+1) 9 1 (.slice ar refs.length cr) refs.length (refs.map Value.string)∧refs.length≤st7.pos∧refsN s.data.toList A p (s.data.toList.length+1) [] st6=(st7,refs)
theorem refs33 (F:Nat→Prop) (R X B8:Nat) (s:ByteArray) (d:Dm) (st6:Ns) (p:ByteArray) (v8:Value) (a8 a9 a10:Option Addr) (c8 c9 c10:Nat) (w3 w9:World) (hs:s.size≤50000000) (hR3:R<X) (hB8':R+1≤B8) (HXe:Hid (w3.heap.size=X)) (HOK:Hid (DOk d))
  (HQ9:Hid (QR B8 R w9 s v8 st6)) (HF9:Hid (FRX R X w3 w9)) (HX9:Hid (w9.heap[X]?=some (.cells #[.string p,.slice none 0 0,.slice none 0 0] 76 (0,0)))) (HDC3:Hid (DC F R w3 d.l d.came d.fresh (.slice a8 d.l.length c8) (.slice a9 d.came.length c9) (.slice a10 d.fresh.length c10))) (u0 u1 u2 u3 u4 u5 u6 u9 u10 u11 u13 u14 u15 u16 u17 u18 u19 u20 u21 u22 u23 u24 u25 u26 u27 u28 u29 u30 u31 u32 u33 u34 u35 u36 u37 u38 u39 u40 u41 u42 u43 u44 u45 u46 u47 u48 u49 u50 u51 u52 u53 u54 u55 u56 u57 u58 u59 u60 u61 u62 u63 u64 u65 u66 u67 u68 u69 u70 u71 u72 u73 u74 u75 u76 u77 u78 u79 u80 u81 u82 u83 u84 u85 u86 u87 u88 u89 u90 u91 u92 u93 u94 u95 u96 u97 u98 u99 u100 u101 u102 u103 u104 u105 u106 u107 u108 u109 u110 u111 u112 u113 u114 u115 u116 u117 u118 u119 u120 u121 u122 u123 u124 u125 u126 u127 u128 u129 u130 u131 u132 u133 u134 u135 u136 u137 u138 u139 u140 u141 u142 u143 u144 u145 u146 u147 u148 u149 u150 u151 u152 u153 u154 u155 u156 u157 u158 u159 u160 u161 u162 u163 u164 u165 u166 u167 u168 u169 u170 u171 u172 u173 u174 u175 u176 u177 u178 u179 u180 u181 u182 u183 u184 u185 u186 u187 u188 u189 u190 u191 u192 u193 u194 u195 u196 u197 u198 u199 u200 u201:Value) (Q:Exit→Act→World→Prop) (hQ:Hid (∀(w':World) (st7:Ns) (refs:List ByteArray) (ar:Option Addr) (cr:Nat) (v13 v14 v15 v57 v58 v59 v60 v61 v62 v63 v64 v65 v66 v67 v68 v69 v70 v71 v72 v73 v74 v75 v76 v77 v78 v79 v80 v81 v82 v83 v84 v85 v86 v87 v88 v89 v90 v91 v92 v93 v94 v95 v96 v97 v98 v99 v100 v101 v102 v103:Value),RefsPost R X B8 s v8 w3 d.l p st6 st7 refs ar cr w'→Q .normal ⟨#[u0,u1,u2,u3,u4,u5,u6,.pointer (some ⟨R,0,none⟩),.slice a8 d.l.length c8,u9,u10,u11,.pointer (some ⟨X,0,none⟩),v13,v14,v15,u16,u17,u18,u19,u20,u21,u22,u23,u24,u25,u26,u27,u28,u29,u30,u31,u32,u33,u34,u35,u36,u37,u38,u39,u40,u41,u42,u43,u44,u45,u46,u47,u48,u49,u50,u51,u52,u53,u54,u55,u56,v57,v58,v59,v60,v61,v62,v63,v64,v65,v66,v67,v68,v69,v70,v71,v72,v73,v74,v75,v76,v77,v78,v79,v80,v81,v82,v83,v84,v85,v86,v87,v88,v89,v90,v91,v92,v93,v94,v95,v96,v97,v98,v99,v100,v101,v102,v103,u104,u105,u106,u107,u108,u109,u110,u111,u112,u113,u114,u115,u116,u117,u118,u119,u120,u121,u122,u123,u124,u125,u126,u127,u128,u129,u130,u131,u132,u133,u134,u135,u136,u137,u138,u139,u140,u141,u142,u143,u144,u145,u146,u147,u148,u149,u150,u151,u152,u153,u154,u155,u156,u157,u158,u159,u160,u161,u162,u163,u164,u165,u166,u167,u168,u169,u170,u171,u172,u173,u174,u175,u176,u177,u178,u179,u180,u181,u182,u183,u184,u185,u186,u187,u188,u189,u190,u191,u192,u193,u194,u195,u196,u197,u198,u199,u200,u201],[]⟩ w')) :
  Code.wp Tryz.prog (blkC Tryz.f33 2) Q ⟨#[u0,u1,u2,u3,u4,u5,u6,.pointer (some ⟨R,0,none⟩),.slice a8 d.l.length c8,u9,u10,u11,.pointer (some ⟨X,0,none⟩),u13,u14,u15,u16,u17,u18,u19,u20,u21,u22,u23,u24,u25,u26,u27,u28,u29,u30,u31,u32,u33,u34,u35,u36,u37,u38,u39,u40,u41,u42,u43,u44,u45,u46,u47,u48,u49,u50,u51,u52,u53,u54,u55,u56,u57,u58,u59,u60,u61,u62,u63,u64,u65,u66,u67,u68,u69,u70,u71,u72,u73,u74,u75,u76,u77,u78,u79,u80,u81,u82,u83,u84,u85,u86,u87,u88,u89,u90,u91,u92,u93,u94,u95,u96,u97,u98,u99,u100,u101,u102,u103,u104,u105,u106,u107,u108,u109,u110,u111,u112,u113,u114,u115,u116,u117,u118,u119,u120,u121,u122,u123,u124,u125,u126,u127,u128,u129,u130,u131,u132,u133,u134,u135,u136,u137,u138,u139,u140,u141,u142,u143,u144,u145,u146,u147,u148,u149,u150,u151,u152,u153,u154,u155,u156,u157,u158,u159,u160,u161,u162,u163,u164,u165,u166,u167,u168,u169,u170,u171,u172,u173,u174,u175,u176,u177,u178,u179,u180,u181,u182,u183,u184,u185,u186,u187,u188,u189,u190,u191,u192,u193,u194,u195,u196,u197,u198,u199,u200,u201],[]⟩ w9:=by
 unfold blkC
 conv=>arg 2;whnf
 have hsl:s.data.toList.length=s.size:=by simp
 have HB3:Hid True:=hide trivial;obtain ⟨RF,hRF⟩:∃RF,refsN s.data.toList d.l p (s.data.toList.length+1) [] st6=RF:=⟨_,rfl⟩;have HRF:=hide hRF;obtain ⟨i9,hi9,h90,h91,h92⟩:=info_parts Tryz.info9
 go_wp2_with fail
 go_loopw [] (fun wr=>∃(refs:List ByteArray) (st:Ns) (ar:Option Addr) (cr:Nat),Hid (QR B8 R wr s v8 st)∧Hid (FRX R X w3 wr)∧Hid (wr.heap[X]?=some (.cells #[.string p,.slice none 0 0,.slice ar refs.length cr] 76 (0,0)))∧Hid (wr.ownsRow (X+1) 9 1 (.slice ar refs.length cr) refs.length (refs.map Value.string))∧Hid (refs.length≤st.pos)∧Hid (∃f,(st.e=0→s.size - st.pos<f)∧refsN s.data.toList d.l p f refs st=RF)) (fun wr=>s.size - posIn wr R)
 case atStart=>exact ⟨[],st6,none,0,HQ9,HF9,HX9,hide (World.ownsRow_nil _ _ _ _),hide (Nat.zero_le _),hide ⟨_,fun _=>by omega,hRF⟩⟩
 case round=>
  obtain ⟨refs,st,ar,cr,HQ,HFr,HX,HO,HL,HR⟩:=hrel;clear HQ9 HF9 HX9 hRF;have hRl:=HQ.out.lt;have hdp6:=HQ.out.le;have hpi0:=HQ.out.posIn;have cW:=hide (rword_new HQ.out [wRef,wSum] #[.string wRef,.string wSum] rfl 2 rfl _ rfl (by simp) hs);obtain ⟨W7,hW7⟩:∃W7,wordN s.data.toList [wRef,wSum] st=W7:=⟨_,rfl⟩;rw[hW7]at cW;obtain ⟨st7,t7⟩:=W7
  by_cases ht7:t7=wRef
  ·have htb7:(t7.toList == [114,101,102])=true:=by rw[ht7,refW_list];rfl
   have hal7:st7.e=0∧st.e=0∧st.pos+8≤st7.pos:=by
    have h1:=word_some (s:=s.data.toList) (may:=[wRef,wSum]) (st:=st) (by rw[hW7];show t7≠_;rw[ht7];exact fun e=>ne_none_ref e.symm);rw[hW7]at h1;have h2:=word_grow (s:=s.data.toList) (may:=[wRef,wSum]) (st:=st) (by rw[hW7];exact h1);rw[hW7]at h2;exact ⟨h1,h2.1,h2.2⟩
   obtain ⟨hal7,hal6,hgrow7⟩:=hal7;obtain ⟨f2,hf2,hfr⟩:=HR.out;have hf20:=hf2 hal6;obtain ⟨f3,rfl⟩:∃f3,f2=f3+1:=⟨f2 - 1,by omega⟩;rw[refsN_succ,hW7]at hfr;simp only at hfr;rw[if_pos ht7]at hfr;have HFR:=hide hfr;have hL0:=HL.out;clear ht7 hfr hf2 HR hW7 HL
   go_wp2_with fail
   refine cW.out.mono ?_;rintro e w10 ⟨rfl,hq10⟩;have c1:w10.cell? ⟨R,1,none⟩=some (.int .i64 st7.pos):=by simp[World.cell?,hq10.1.blk]
   have cN:=hide (rnext_any hq10.1 12 (by omega) hs);obtain ⟨W8,hW8⟩:∃W8,nextN s.data.toList 12 st7=W8:=⟨_,rfl⟩;rw[hW8]at cN;obtain ⟨st8,q⟩:=W8;have HW8:=hide hW8;have HQ10:=hide hq10;clear cW hq10 hW8
   go_wp2_with fail
   refine cN.out.mono ?_;rintro e w11 ⟨rfl,hq11⟩;have hqq:=HQ10.out.trans hq11;have HQ11:=hide hq11.1;have HF11:=hide (HFr.out.trans (FRX.qp hqq (by omega)));have HX11:=hide (hqq.2.2 _ _ _ _ HX.out (by decide));have HO11:=hide (own_same HO.out fun g hg=>by
    obtain ⟨c,fz,hc⟩:=own_kind HO.out g hg;exact (hqq.2.2 _ _ _ _ hc (by decide)).trans hc.symm)
   have hs11:=hqq.2.1.size;clear cN HQ10 HFr HX HO hq11 hqq c1 HQ;have x2:w11.cell? ⟨X,2,none⟩=some (.slice ar refs.length cr):=by simp[World.cell?,HX11.out]
   have hX11:=lt_of_block HX11.out
   go_upto_region 19 with fail
   go_cut [81] from 57 to 103 (fun x wd=>x=.bool (lowR refs q)∧w11=wd)
   case first=>
    have HS11:=hide (own_strs HO11.out)
    by_cases hnil:refs=[]
    ·have hpos:¬ (0:Int)<(refs.length:Int):=by rw[hnil];decide
     have HN:=hide hnil;clear HQ11 HF11 HX11 HO11 HDC3 HB3 HS11 hnil;go_wp2;go_meet;exact ⟨by rw[HN.out,lowR_nil],rfl⟩
    ·have hp0:0<refs.length:=List.length_pos_iff.2 hnil;obtain ⟨b1,off1,y,k,rfl,hk,hC2,hlow⟩:=lowR_cell HS11.out hp0 q;have HLow:=hide hlow;have hpos:(0:Int)<(refs.length:Int):=by omega
     have hsub:(refs.length:Int) - 1=k:=by omega
     have hltk:(k:Int)<(refs.length:Int):=by omega
     clear HQ11 HF11 HX11 HO11 HDC3 HB3 hlow hk HS11 hnil hp0;go_wp2;go_meet;exact ⟨by rw[HLow.out],rfl⟩
   case rest=>
    obtain ⟨hx81,hw11⟩:=hcut;subst hx81 hw11
    go_upto_if 81 with fail
    go_cut [] from 57 to 103 (fun wd=>Hid (QP B8 R w11 s v8 (st8.failIf (lowR refs q) 7 st7.pos) wd))
    case first=>
     cases hlow:lowR refs q with
     | true=>
      have cF:=hide (rfail_any HQ11.out 7 st7.pos);clear HQ11 HF11 HX11 HO11 HDC3 HB3
      go_wp2_with fail
      refine cF.out.mono ?_;rintro e w12 ⟨⟨r12,rfl⟩,hq12⟩;go_wp2;go_meet;exact hide (by rw[hlow];exact hq12)
     | false=>
      have HM:=hide HQ11.out.same;clear HQ11 HF11 HX11 HO11 HDC3 HB3;go_wp2;go_meet;exact hide (by rw[hlow];exact HM.out)
    case rest=>
     have hq12:=hcut.out;have HQ12:=hide hq12.1;have HF12:=hide (HF11.out.trans (FRX.qp hq12 (by omega)));have HX12:=hide (hq12.2.2 _ _ _ _ HX11.out (by decide));have HO12:=hide (own_same HO11.out fun g hg=>by
      obtain ⟨c,fz,hc⟩:=own_kind HO11.out g hg;exact (hq12.2.2 _ _ _ _ hc (by decide)).trans hc.symm)
     have hs12:=hq12.2.1.size;obtain ⟨st9,hst9⟩:∃st9,st8.failIf (lowR refs q) 7 st7.pos=st9:=⟨_,rfl⟩;rw[hst9]at HQ12;have HST9:=hide hst9;obtain ⟨w12,hw12⟩:∃w12,w12=wc:=⟨_,rfl⟩;subst hw12;clear hcut HQ11 HF11 HX11 HO11 hq12 hst9 x2;have HDC12:=hide (HDC3.out.frx (by rw[HXe.out];exact HF12.out));obtain ⟨le,hSE,hRE,_⟩:=HDC12.out.l;have hll:=hRE.length;have hdl:=HOK.out.few;have cA:=hide (at_any (.slice a8 d.l.length c8) le q w12 hSE (by omega));have HRE:=hide hRE;have x0:w12.cell? ⟨X,0,none⟩=some (.string p):=by simp[World.cell?,HX12.out]
     clear hSE hRE HDC12
     go_upto_region 21 with fail
     go_cut [94] from 57 to 103 (fun x wd=>x=.bool (lackS d.l p q)∧Hid (Below w12.heap.size w12 wd))
     case first=>
      by_cases er:q=p
      ·have hb:(q.toList == p.toList)=true:=by rw[er];simp
       have hlk:lackS d.l p q=false:=by unfold lackS;rw[decide_eq_true er];rfl
       have HLk:=hide hlk;clear HQ12 HF12 HX12 HO12 HDC3 HB3 HRE cA er hlk;go_wp2;go_meet;exact ⟨by rw[HLk.out],hide (Below.refl _ _)⟩
      ·have hb:=eqB_false er;rcases HRE.out.find q with ⟨hf1,hf2⟩ | ⟨k,hk1,hk2,hf1,hf2⟩
       ·have hlk:lackS d.l p q=true:=by unfold lackS;rw[decide_eq_false er,hf1];rfl
        have HLk:=hide hlk;rw[hf2]at cA;clear HQ12 HF12 HX12 HO12 HDC3 HB3 HRE er hlk hf1 hf2
        go_wp2_with fail
        refine cA.out.mono ?_;rintro e w13 ⟨rfl,hb13⟩;have HB13:=hide hb13;clear hb13;go_wp2;go_meet;exact ⟨by rw[HLk.out],HB13⟩
       ·have hlk:lackS d.l p q=false:=by unfold lackS;rw[decide_eq_false er,hf2];rfl
        have HLk:=hide hlk;rw[hf1]at cA;have hkz:¬ (k:Int)<0:=by omega
        clear HQ12 HF12 HX12 HO12 HDC3 HB3 HRE er hlk hf1 hf2
        go_wp2_with fail
        refine cA.out.mono ?_;rintro e w13 ⟨rfl,hb13⟩;have HB13:=hide hb13;clear hb13;go_wp2;go_meet;exact ⟨by rw[HLk.out,decide_eq_false (p:=(k:Int)<0) (by omega)],HB13⟩
     case rest=>
      obtain ⟨hx94,hB13⟩:=hcut;subst hx94;have HQ13:=hide (HQ12.out.new hB13.out);have HF13:=hide (HF12.out.trans (FRX.new hB13.out (by omega)));have HX13:=hide ((hB13.out.block X (by omega)).trans HX12.out);have HO13:=hide (own_same HO12.out fun g hg=>hB13.out.block g (own_ge HO12.out hg).2);have hs13:=hB13.out.size;clear hB13 HQ12 HF12 HX12 HO12 HRE cA x0;obtain ⟨w13,hw13⟩:∃w13,w13=wc:=⟨_,rfl⟩;subst hw13
      go_upto_if 94 with fail
      go_cut [] from 57 to 103 (fun wd=>Hid (QP B8 R w13 s v8 (st9.failIf (lackS d.l p q) 13 st7.pos) wd))
      case first=>
       cases hlk:lackS d.l p q with
       | true=>
        have cF:=hide (rfail_any HQ13.out 13 st7.pos);clear HQ13 HF13 HX13 HO13 HDC3 HB3
        go_wp2_with fail
        refine cF.out.mono ?_;rintro e w14 ⟨⟨r14,rfl⟩,hq14⟩;go_wp2;go_meet;exact hide (by rw[hlk];exact hq14)
       | false=>
        have HM:=hide HQ13.out.same;clear HQ13 HF13 HX13 HO13 HDC3 HB3;go_wp2;go_meet;exact hide (by rw[hlk];exact HM.out)
      case rest=>
       have hq14:=hcut.out;have HQ14:=hide hq14.1;have HF14:=hide (HF13.out.trans (FRX.qp hq14 (by omega)));have HX14:=hide (hq14.2.2 _ _ _ _ HX13.out (by decide));have HO14:=hide (own_same HO13.out fun g hg=>by
        obtain ⟨c,fz,hc⟩:=own_kind HO13.out g hg;exact (hq14.2.2 _ _ _ _ hc (by decide)).trans hc.symm)
       have hs14:=hq14.2.1.size;obtain ⟨st10,hst10⟩:∃st10,st9.failIf (lackS d.l p q) 13 st7.pos=st10:=⟨_,rfl⟩;rw[hst10]at HQ14;have HST10:=hide hst10;obtain ⟨w14,hw14⟩:∃w14,w14=wc:=⟨_,rfl⟩;subst hw14;clear hcut HQ13 HF13 HX13 HO13 hq14 hst10;have x2:w14.cell? ⟨X,2,none⟩=some (.slice ar refs.length cr):=by simp[World.cell?,HX14.out]
       go_wp2_with (at_builtin;refine wpList_append_own_at _ rfl (.tmp 99) (.tmp 101) 26 rfl (X+1) 9 i9 (.string ⟨#[]⟩) 1 16 Tryz.underlying26 hi9 h90 h91 h92 rfl (by decide) _ _ _ rfl (HO14.out.alloc _) ⟨w14.heap.size,0,none⟩ 1 1 [.string q] rfl rfl (cell_one_at _ _ _ _ rfl) (fun x hx=>by simp at hx;subst hx;rfl) (by unfold maxLen;omega) (by omega) (by simp;omega) ?_;intro v15 w15 hown15 hgrow15 hnil15 hat15;obtain ⟨a15,c15,rfl,_⟩:=own_sl hown15;have HX15:=hide ((hgrow15.block X (by simp;omega) (fun e=>by have:=own_ge HO14.out e.symm;omega)).trans (block_keep _ HX14.out));have x2':w15.cell? ⟨X,2,none⟩=some (.slice ar refs.length cr):=(by simp[World.cell?,HX15.out]);have f2':w15.frozen? ⟨X,2,none⟩=false:=(by simp[World.frozen?,HX15.out]))
       have hal14:=(Below.refl _ w14).alloc (Nat.le_refl _) (.cells #[.string q] 9);have hK15:KT [9] w14 w15:=((KT.refl [9] w14).alloc _).grown (HO14.out.alloc _) hgrow15 (by decide);have hK16:KT [9,76] w14 (w15.setCell ⟨X,2,none⟩ (.slice a15 (refs.length+1) c15)):=(hK15.mono (by simp)).set HX15.out (by decide) 2 _;have hs15:w14.heap.size+1≤w15.heap.size:=by have:=hgrow15.size;simpa using this
       have HQ16:=hide (HQ14.out.kt (by rw[size_set];omega) hK16 (by decide) (by decide));have HF16:=hide (((HF14.out.trans (FRX.new hal14 (by omega))).grown hgrow15 (fun k hk=>by have:=own_ge HO14.out hk;omega) (by omega) (by simp;omega)).set 2 (.slice a15 (refs.length+1) c15) (by omega));have HX16:=hide (block_set HX15.out 2 (.slice a15 (refs.length+1) c15));have HO16:=hide (own_same hown15 fun g hg=>Below.heap_setCell w15 ⟨X,2,none⟩ (.slice a15 (refs.length+1) c15) g (by have:=own_ge hown15 hg;show g≠X;omega));have hm8:=next_mono s.data.toList 12 st7;rw[HW8.out]at hm8;have hp9:=(failIf_l st8 (lowR refs q) 7 st7.pos).2;rw[HST9.out]at hp9;have hp10:=(failIf_l st9 (lackS d.l p q) 13 st7.pos).2;rw[HST10.out]at hp10;have hpi:=HQ16.out.posIn;simp only at hm8;have hgr:=HFR.out;rw[HW8.out]at hgr;unfold rstep at hgr;simp only at hgr;rw[HST9.out,HST10.out]at hgr;have hle10:=HQ14.out.le;clear hown15 hgrow15 hnil15 hat15 hal14 hK15 hK16 HQ14 HF14 HX14 HO14;go_roundw
       case rel=>
        exact ⟨refs++[q],st10,a15,c15,HQ16,HF16,hide (by rw[List.length_append];exact HX16.out),hide (by rw[List.length_append,List.map_append];exact HO16.out),hide (by rw[List.length_append];show refs.length+1≤_;omega),hide ⟨f3,fun _=>by omega,hgr⟩⟩
       case measure=>
        rw[hpi,hpi0];omega
  ·have htb7:(t7.toList == [114,101,102])=false:=by rw[← refW_list];exact eqB_false ht7
   have hfr:RF=(st7,refs):=by
    obtain ⟨f2,hf2,hfr⟩:=HR.out;cases f2 with
    | zero=>
     rw[refsN_zero]at hfr;have hne:st.e≠0:=fun e=>by have:=hf2 e;omega
     rw[word_dead hne]at hW7;injection hW7 with h1 _
     rw[← hfr,h1]
    | succ f3=>
     rw[refsN_succ,hW7]at hfr;simp only at hfr;rw[if_neg ht7]at hfr;exact hfr.symm
   have HRF2:=hide (HRF.out.trans hfr);have hL0:=HL.out;have hm7:st.pos≤st7.pos:=by have:=word_mono s.data.toList [wRef,wSum] st;rw[hW7]at this;exact this
   clear HRF hfr HR hW7 ht7 HL
   go_wp2_with fail
   refine cW.out.mono ?_;rintro e w10 ⟨rfl,hq10⟩;have HQ10:=hide hq10;clear cW hq10;go_wp2;refine hQ.out w10 st7 refs ar cr _ _ _ _ _ _ _ _ _ _ _ _ _ _ _ _ _ _ _ _ _ _ _ _ _ _ _ _ _ _ _ _ _ _ _ _ _ _ _ _ _ _ _ _ _ _ _ _ _ _ ?_;exact ⟨HQ10.out.1,HFr.out.trans (FRX.qp HQ10.out (by omega)),HQ10.out.2.2 _ _ _ _ HX.out (by decide),own_same HO.out fun g hg=>by
    obtain ⟨c,fz,hc⟩:=own_kind HO.out g hg;exact (HQ10.out.2.2 _ _ _ _ hc (by decide)).trans hc.symm,by omega,HRF2.out⟩
theorem keepN_pos (d:Dm) (st:Ns) (p q:ByteArray) (refs:List ByteArray) (k:Nat):(keepN d st p q refs k).st.pos=st.pos:=by
 unfold keepN;simp only[(failIf_l _ _ _ _).2]
theorem DOk.keep {d:Dm} {st8:Ns} {p q:ByteArray} {refs:List ByteArray} {k:Nat} (h:DOk d) (he:d.st.e=0) (hT:IsTree st8.l) (hm:d.st.pos+8≤st8.pos) (hr:refs.length≤50000000):DOk (keepN d st8 p q refs k):=by
 have hp:=keepN_pos d st8 p q refs k;have ht:=h.ten he;have hc:=h.cl;have hf:=h.fl;cases hfi:findS d.l p with
 | some e=>
  have hl:(keepN d st8 p q refs k).l=d.l:=by unfold keepN;simp[hfi]
  have hfr:(keepN d st8 p q refs k).fresh=d.fresh:=by unfold keepN;simp[hfi]
  have hca:(keepN d st8 p q refs k).came=d.came++[p]:=rfl;refine ⟨fun _=>by rw[hl];exact h.tree he,fun _=>by rw[hl];exact ht,by rw[hl];exact h.rl,by rw[hl];omega,?_,by rw[hfr,hp];omega⟩;rw[hca,hp,List.length_append,List.length_singleton];omega
 | none=>
  have hl:(keepN d st8 p q refs k).l=insS ⟨p,st8.l,refs⟩ d.l:=by unfold keepN;simp[hfi]
  have hfr:(keepN d st8 p q refs k).fresh=d.fresh++[p]:=by unfold keepN;simp[hfi]
  have hca:(keepN d st8 p q refs k).came=d.came++[p]:=rfl;refine ⟨fun _=>by
    rw[hl];intro x hx;rcases insS_mem hx with rfl | hx
    ·exact hT
    ·exact h.tree he x hx,fun e=>?_,by
    rw[hl];intro x hx;rcases insS_mem hx with rfl | hx
    ·exact hr
    ·exact h.rl x hx,by rw[hl,insS_len];omega,?_,?_⟩
  ·have h2:=(failIf_live (show (Ns.failIf _ _ 14 k).e=0 from e) (by decide)).2;rw[put14_none hfi ht]at h2;have h3:=of_decide_eq_false h2;rw[hl,insS_len];omega
  ·rw[hca,hp,List.length_append,List.length_singleton];omega
  ·rw[hfr,hp,List.length_append,List.length_singleton];omega
theorem sliceE_set {w:World} {b n c:Nat} {a:Option Addr} {t:TypeId} {fz:Nat × Nat} {v x:Value} {l:List REn} (hk:w.heap[b]?=some (.cells #[.slice a n c] t fz)) (h:SliceE w x l):SliceE (w.setCell ⟨b,0,none⟩ v) x l:=by
 obtain ⟨a1,c1,rfl,h1,h4⟩:=h;refine ⟨a1,c1,rfl,h1,fun hp=>?_⟩;obtain ⟨b',off,rfl,h5,h6⟩:=h4 hp;refine ⟨b',off,rfl,by simp[World.setCell];exact h5,fun j hj=>?_⟩;have h7:=h6 j hj;have hne:=far_cell hk h7.1;rw[World.cell?_setCell_far _ _ _ _ hne,World.cell?_setCell_far _ _ _ _ hne,World.cell?_setCell_far _ _ _ _ hne];exact h7
theorem DC.fin {F:Nat→Prop} {b n c:Nat} {a:Option Addr} {w w':World} {A:List Ent} {came fresh:List ByteArray} {v8 v9 v10:Value} (h:DC F w.heap.size w' A came fresh v8 v9 v10) (hF:∀k,w.heap.size≤k→F k) (hR:w.heap.size<w'.heap.size) (hb:Below w.heap.size w w') (hblt:b<w.heap.size) (hk:w'.heap[b]?=some (.cells #[.slice a n c] 48 (0,0))) :
  RStF F (w'.setCell ⟨b,0,none⟩ v8) b A∧Wrote b w (w'.setCell ⟨b,0,none⟩ v8)∧SliceS (w'.setCell ⟨b,0,none⟩ v8) v10 fresh:=by
 have hz:(w'.setCell ⟨b,0,none⟩ v8).heap.size=w'.heap.size:=by simp[World.setCell]
 obtain ⟨le,h1,h2,h3,h4,h5⟩:=h.l;have hFD:∀k,FD F w.heap.size w' v9 v10 k→F k∧k<(w'.setCell ⟨b,0,none⟩ v8).heap.size:=fun k hd=>by
  rw[hz];have hl:=(hd.lt hR).1;rcases hd with hd | ⟨hd,_⟩
  ·exact ⟨hd.2,hl⟩
  ·exact ⟨hF k (Nat.le_of_lt hd),hl⟩
 refine ⟨⟨v8,le,set_blk hk 0 v8,sliceE_set hk h1,h2.mono (fun v ns h=>sliceN_set hk h) (fun v ss h=>sliceS_set hk h),h3,h4.mono hFD,fun y hy=>(h5 y hy).mono hFD⟩,⟨⟨?_,fun k hkl hne=>?_⟩,fun B hB=>?_⟩,sliceS_set hk (own_strs h.fr)⟩
 ·rw[hz];exact Nat.le_of_lt hR
 ·exact (Below.heap_setCell _ _ _ _ hne).trans (hb.block k hkl)
 ·exact (hb.mono (by omega)).setCell hB _
theorem docEnd_no {A:List Ent} {S:Bs} {d:Dm} {st:Ns} (hs:d.st.failIf (decide (d.st.pos<S.length)) 10 d.st.pos=st) (he:st.e≠0):docEnd A S d=noR A st.e st.bad:=by
 unfold docEnd;rw[hs,if_neg he]
theorem docEnd_yes {A:List Ent} {S:Bs} {d:Dm} {st:Ns} (hs:d.st.failIf (decide (d.st.pos<S.length)) 10 d.st.pos=st) (he:st.e=0):docEnd A S d=((d.fresh,0,0),d.l):=by
 unfold docEnd;rw[hs,if_pos he]
theorem rImportF_any (F:Nat→Prop) (b:Nat) (A:List Ent) (s:ByteArray) (w:World) (h:RStF F w b A) (hF:∀k,w.heap.size≤k→F k) (hG:GoodS A) (hs:s.size≤50000000) :
  Calls Tryz.prog 33 #[.pointer (some ⟨b,0,none⟩),.string s] w (RImpPost F b w (importF A s.data.toList)):=by
 have hq0:QR (w.heap.size+1) w.heap.size (w.alloc (.cells #[.string s,.int .i64 0,.int .i64 0,.int .i64 0,.slice none 0 0] 92)) s (.slice none 0 0) ⟨0,0,0,[]⟩:=
  ⟨block_new w _,by simp,World.ownsRow_nil _ _ _ _,Nat.zero_le _,Nat.le_refl _⟩
 have hal:=(Below.refl _ w).alloc (Nat.le_refl _) (.cells #[.string s,.int .i64 0,.int .i64 0,.int .i64 0,.slice none 0 0] 92);have hsz0:(w.alloc (.cells #[.string s,.int .i64 0,.int .i64 0,.int .i64 0,.slice none 0 0] 92)).heap.size=w.heap.size+1:=by simp
 have cM:=hide (rmust_any hq0 wExp hs);obtain ⟨v0,le0,hS1,hS2,hS3,hS4,hS5,hS6⟩:=id h;have hblt:=h.lt;have hDC0:DC F w.heap.size (w.alloc (.cells #[.string s,.int .i64 0,.int .i64 0,.int .i64 0,.slice none 0 0] 92)) A [] [] v0 (.slice none 0 0) (.slice none 0 0):=
  ⟨⟨le0,hS2.below hal,hS3.mono (fun v ns hs=>hs.below hal) (fun v ss hs=>hs.below hal),hS4,hS5.mono (fun k hk=>.inl ⟨hk.2,hk.1⟩),fun y hy=>(hS6 y hy).mono fun k hk=>.inl ⟨hk.2,hk.1⟩⟩,⟨[],World.ownsRow_nil _ _ _ _,rfl⟩,World.ownsRow_nil _ _ _ _⟩
 have hlen0:=hS3.length;obtain ⟨a0,c0',hv0,hcap0,_⟩:=id hS2;rw[hlen0]at hv0;subst hv0;obtain ⟨RR,hRR⟩:∃RR,importF A s.data.toList=RR:=⟨_,rfl⟩;rw[hRR];have hN:=importN_eq A s.data.toList;rw[hRR]at hN;have hsl:s.data.toList.length=s.size:=by simp
 obtain ⟨D,hD⟩:∃D,impN s.data.toList (s.data.toList.length+1) ⟨mustN s.data.toList wExp ⟨0,0,0,[]⟩,A,[],[]⟩=D:=⟨_,rfl⟩;have HEnd:Hid (docEnd A s.data.toList D=RR):=hide (by rw[← hD];exact hN);have hblk0:=(hal.block b hblt).trans hS1;have HDC0:=hide hDC0;have HAL:=hide hal;have HF:=hide hF;have HST:=hide h;have HG:=hide hG;clear hS1 hS2 hS3 hS4 hS5 hS6 hq0 hDC0 hN hRR hcap0 hF hG h;go_enter Tryz.func33,Tryz.ntmps33
 go_wp2_with fail
 refine cM.out.mono ?_;rintro e w1 ⟨⟨r1,rfl⟩,hq1⟩;have HQ1:=hide hq1;have hR1:w.heap.size<(w.alloc (.cells #[.string s,.int .i64 0,.int .i64 0,.int .i64 0,.slice none 0 0] 92)).heap.size:=by omega
 have HDC1:=hide (HDC0.out.qp (by omega) hq1);have hb1:Below w.heap.size w w1:=HAL.out.trans (hq1.2.1.1 w.heap.size (by omega) (Nat.le_refl _));have HB1:=hide hb1;have c0:w1.cell? ⟨b,0,none⟩=some (.slice a0 A.length c0'):=by
  have:=(hb1.block b hblt);simp only[World.cell?,this];have h2:=(hal.block b hblt);rw[← h2,hblk0];rfl
 clear cM hq1 HDC0 HAL hb1 hblk0 hal hsz0 hR1
 go_upto_block 0 with fail
 go_cut [8,9,10] from 27 to 170 (fun v8 v9 v10 wr=>∃(B:Nat) (v:Value) (a8 a9 a10:Option Addr) (c8 c9 c10:Nat),v8=.slice a8 D.l.length c8∧v9=.slice a9 D.came.length c9∧v10=.slice a10 D.fresh.length c10∧w.heap.size+1≤B∧Hid (QR B w.heap.size wr s v D.st)∧Hid (DC F w.heap.size wr D.l D.came D.fresh v8 v9 v10)∧Hid (Below w.heap.size w wr))
 case first=>
  go_wp2_with fail
  go_loopw [8,9,10] (fun v8 v9 v10 wr=>∃(d:Dm) (B:Nat) (v:Value) (a8 a9 a10:Option Addr) (c8 c9 c10:Nat),v8=.slice a8 d.l.length c8∧v9=.slice a9 d.came.length c9∧v10=.slice a10 d.fresh.length c10∧w.heap.size+1≤B∧Hid (QR B w.heap.size wr s v d.st)∧Hid (DC F w.heap.size wr d.l d.came d.fresh v8 v9 v10)∧Hid (Below w.heap.size w wr)∧Hid (DOk d)∧Hid (∃f,(d.st.e=0→s.size - d.st.pos<f)∧impN s.data.toList f d=D)) (fun _ _ _ wr=>s.size - posIn wr w.heap.size)
  case atStart=>
   exact ⟨⟨mustN s.data.toList wExp ⟨0,0,0,[]⟩,A,[],[]⟩,w.heap.size+1,_,a0,none,none,c0',0,0,rfl,rfl,rfl,Nat.le_refl _,hide HQ1.out.1,HDC1,HB1,hide ⟨fun _=>HG.out.tree,fun _=>HG.out.few,fun x hx=>by have:=HG.out.refs x hx;omega,by show A.length≤11;have:=HG.out.few;omega,Nat.zero_le _,Nat.zero_le _⟩,hide ⟨s.data.toList.length+1,fun _=>by show s.size - _<_;omega,hD⟩⟩
  case round=>
   obtain ⟨d,B,v,a8,a9,a10,c8,c9,c10,rfl,rfl,rfl,hB,HQ,HDC,HB,HOK,HIM⟩:=hrel;clear HQ1 HDC1 HB1 c0;have hRlt:=HQ.out.lt;have hdp:=HQ.out.le;have hpio:=HQ.out.posIn;have cW:=hide (rword_new HQ.out [wPath,wEnd] #[.string wPath,.string wEnd] rfl 2 rfl _ rfl (by simp) hs);obtain ⟨W1,hW1⟩:∃W1,wordN s.data.toList [wPath,wEnd] d.st=W1:=⟨_,rfl⟩;rw[hW1]at cW;obtain ⟨st1,t1⟩:=W1
   by_cases ht:t1=wPath
   ·have htb:(t1.toList == [112,97,116,104])=true:=by rw[ht,path_list];rfl
    have hal1:st1.e=0∧d.st.e=0∧d.st.pos+8≤st1.pos:=by
     have h1:=word_some (s:=s.data.toList) (may:=[wPath,wEnd]) (st:=d.st) (by rw[hW1];show t1≠_;rw[ht];exact fun e=>ne_none_path e.symm);rw[hW1]at h1;have h2:=word_grow (s:=s.data.toList) (may:=[wPath,wEnd]) (st:=d.st) (by rw[hW1];exact h1);rw[hW1]at h2;exact ⟨h1,h2.1,h2.2⟩
    obtain ⟨hal1,hal0,hgrow1⟩:=hal1;obtain ⟨f,hf,hfD⟩:=HIM.out;have hf0:=hf hal0;obtain ⟨f',rfl⟩:∃f',f=f'+1:=⟨f - 1,by omega⟩;rw[impN_succ,hW1]at hfD;simp only at hfD;rw[if_pos ht]at hfD;have HFD:=hide hfD;clear ht hfD hf HIM hW1
    go_wp2_with fail
    refine cW.out.mono ?_;rintro e w2 ⟨rfl,hq2⟩;have HQ2:=hide hq2.1;have HDC2:=hide (HDC.out.qp (by omega) hq2);have HB2:=hide (HB.out.trans (hq2.2.1.1 w.heap.size (by omega) (Nat.le_refl _)));have c1:w2.cell? ⟨w.heap.size,1,none⟩=some (.int .i64 st1.pos):=by simp[World.cell?,hq2.1.blk]
    have cN:=hide (rnext_any hq2.1 12 (by omega) hs);obtain ⟨W2,hW2⟩:∃W2,nextN s.data.toList 12 st1=W2:=⟨_,rfl⟩;rw[hW2]at cN;obtain ⟨st2,p⟩:=W2;have HW2:=hide hW2;have hR2:=hq2.1.lt;clear cW HQ HDC HB hq2 hW2
    go_wp2_with fail
    refine cN.out.mono ?_;rintro e w3 ⟨rfl,hq3⟩;have HQ3:=hide hq3.1;have HDC3:=hide (HDC2.out.qp (by omega) hq3);have HB3:=hide (HB2.out.trans (hq3.2.1.1 w.heap.size (by omega) (Nat.le_refl _)));clear cN HQ2 HDC2 HB2 hq3;have hps:p.size≤12:=by have:=next_size s.data.toList 12 st1;rw[HW2.out]at this;exact this
    have hR3:=HQ3.out.lt;have hal3:=(Below.refl _ w3).alloc (Nat.le_refl _) (.cells #[.string p,.slice none 0 0,.slice none 0 0] 76);have HQ4:=hide (HQ3.out.new hal3);have HF4:=hide (FRX.new (R:=w.heap.size) (X:=w3.heap.size) hal3 (by omega));have HX4:=hide (block_new w3 (.cells #[.string p,.slice none 0 0,.slice none 0 0] 76));have cP:=hide (rpath_any p (w3.alloc (.cells #[.string p,.slice none 0 0,.slice none 0 0] 76)) (by omega));have hX4:w3.heap.size<(w3.alloc (.cells #[.string p,.slice none 0 0,.slice none 0 0] 76)).heap.size:=by simp
    clear HQ3 hal3 c1
    go_upto_if 41 with fail
    refine cP.out.mono ?_;rintro e w4 ⟨rfl,hw4⟩;subst hw4;clear cP;generalize w3.alloc (.cells #[.string p,.slice none 0 0,.slice none 0 0] 76)=w4 at HQ4 HF4 HX4 hX4 ⊢;obtain ⟨X,hXe⟩:∃X,w3.heap.size=X:=⟨_,rfl⟩;rw[hXe]at HX4 hX4 hR3 HF4 ⊢;have HXe:=hide hXe;clear hXe
    go_upto_if 41 with fail
    go_cut [] from 27 to 170 (fun wc=>Hid (QP B w.heap.size w4 s v (st2.failIf (!isPathB p.data.toList) 11 st1.pos) wc))
    case first=>
     cases hpp:isPathB p.data.toList with
     | true=>
      have HM:=hide HQ4.out.same;clear HQ4 HF4 HX4 HDC3 HB3;go_wp2;go_meet;exact hide (by rw[hpp];exact HM.out)
     | false=>
      have cF:=hide (rfail_any HQ4.out 11 st1.pos);clear HQ4 HF4 HX4 HDC3 HB3
      go_wp2_with fail
      refine cF.out.mono ?_;rintro e w5 ⟨⟨r5,rfl⟩,hq5⟩;go_wp2;go_meet;exact hide (by rw[hpp];exact hq5)
    case rest=>
     have hq5:=hcut.out;have HQ5:=hide hq5.1;have HF5:=hide (HF4.out.trans (FRX.qp hq5 (by omega)));have HX5:=hide (hq5.2.2 _ _ _ _ HX4.out (by decide));have hs5:=hq5.2.1.size;obtain ⟨st3,hst3⟩:∃st3,st2.failIf (!isPathB p.data.toList) 11 st1.pos=st3:=⟨_,rfl⟩;rw[hst3]at HQ5;have HST3:=hide hst3;clear hcut HQ4 HF4 HX4 hq5 hst3;have hX5:X<wc.heap.size:=by omega
     have HDC5:=hide (HDC3.out.frx (by rw[HXe.out];exact HF5.out));obtain ⟨ce,hce,hcp⟩:=HDC5.out.ca;have hcel:ce.length=d.came.length:=by rw[← hcp,List.length_map]
     have cA:=hide (at_any (.slice a9 d.came.length c9) ce p wc (own_ents hce) (by have:=HOK.out.cl;omega));have hai:=at_in hcp p;generalize atI ce p=z at cA hai;have HAI:=hide hai;have x0:wc.cell? ⟨X,0,none⟩=some (.string p):=by simp[World.cell?,HX5.out]
     clear hce hcp hcel hai HDC5
     go_upto_if 49 with fail
     refine cA.out.mono ?_;rintro e w6 ⟨rfl,hb6⟩;have HQ6:=hide (HQ5.out.new hb6);have HF6:=hide (HF5.out.trans (FRX.new hb6 (by omega)));have HX6:=hide ((hb6.block _ (by omega)).trans HX5.out);have hs6:=hb6.size;clear cA HQ5 HF5 HX5 hb6 x0
     go_upto_if 49 with fail
     go_cut [] from 27 to 170 (fun wd=>Hid (QP B w.heap.size w6 s v (st3.failIf (inL d.came p) 7 st1.pos) wd))
     case first=>
      by_cases hz:(0:Int)≤z
      ·have hin:inL d.came p=true:=by rw[← HAI.out];exact decide_eq_true hz
       have cF:=hide (rfail_any HQ6.out 7 st1.pos);clear HQ6 HF6 HX6 HDC3 HB3 HAI
       go_wp2_with fail
       refine cF.out.mono ?_;rintro e w7 ⟨⟨r7,rfl⟩,hq7⟩;go_wp2;go_meet;exact hide (by rw[hin];exact hq7)
      ·have hin:inL d.came p=false:=by rw[← HAI.out];exact decide_eq_false hz
       have HM:=hide HQ6.out.same;clear HQ6 HF6 HX6 HDC3 HB3 HAI;go_wp2;go_meet;exact hide (by rw[hin];exact HM.out)
     case rest=>
      have hq7:=hcut.out;have HQ7:=hide hq7.1;have HF7:=hide (HF6.out.trans (FRX.qp hq7 (by omega)));have HX7:=hide (hq7.2.2 _ _ _ _ HX6.out (by decide));have hs7:=hq7.2.1.size;obtain ⟨st4,hst4⟩:∃st4,st3.failIf (inL d.came p) 7 st1.pos=st4:=⟨_,rfl⟩;rw[hst4]at HQ7;have HST4:=hide hst4;clear hcut HQ6 HF6 HX6 hq7 hst4 HAI;have hle4:=HQ7.out.le;have cT:=hide (rtree_any HQ7.out hs);obtain ⟨st5,hst5⟩:∃st5,treeAt s.data.toList st4=st5:=⟨_,rfl⟩;rw[hst5]at cT;have HST5:=hide hst5;clear hst5
      go_wp2_with fail
      refine cT.out.mono ?_;rintro e w8 ⟨⟨r8,rfl⟩,hq8⟩;have HF8:=hide (HF7.out.trans (FRX.qq HQ7.out hq8));have HX8:=hide ((hq8.2.1.2 X (by omega) (by omega)).trans HX7.out);have hs8:=hq8.2.1.size;obtain ⟨⟨v8,hq8'⟩,_,_⟩:=hq8;have cM:=hide (rmust_any hq8' wRefs hs);obtain ⟨st6,hst6⟩:∃st6,mustN s.data.toList wRefs st5=st6:=⟨_,rfl⟩;rw[hst6]at cM;have HST6:=hide hst6;clear cT HQ7 HF7 HX7 hst6 hq8'
      go_wp2_with fail
      refine cM.out.mono ?_;rintro e w9 ⟨⟨r9,rfl⟩,hq9⟩;have HQ9:=hide hq9.1;have HF9:=hide (HF8.out.trans (FRX.qp hq9 (by omega)));have HX9:=hide (hq9.2.2 _ _ _ _ HX8.out (by decide));have hs9:=hq9.2.1.size;clear cM HF8 HX8 hq9
      go_upto_block 2 with fail
      obtain ⟨B8,hB8⟩:∃B8,B8=wc.heap.size:=⟨_,rfl⟩;rw[← hB8]at HQ9;have hB8':w.heap.size+1≤B8:=by omega
      clear hB8;have hX9:=lt_of_block HX9.out;refine refs33 F w.heap.size X B8 s d st6 p v8 a8 a9 a10 c8 c9 c10 w3 w9 hs hR3 hB8' HXe HOK HQ9 HF9 HX9 HDC3 _ _ _ _ _ _ _ _ _ _ _ _ _ _ _ _ _ _ _ _ _ _ _ _ _ _ _ _ _ _ _ _ _ _ _ _ _ _ _ _ _ _ _ _ _ _ _ _ _ _ _ _ _ _ _ _ _ _ _ _ _ _ _ _ _ _ _ _ _ _ _ _ _ _ _ _ _ _ _ _ _ _ _ _ _ _ _ _ _ _ _ _ _ _ _ _ _ _ _ _ _ _ _ _ _ _ _ _ _ _ _ _ _ _ _ _ _ _ _ _ _ _ _ _ _ _ _ _ _ _ _ _ _ _ _ _ _ _ _ _ _ _ _ _ _ _ _ _ _ _ _ _ _ _ _ _ _ _ _ _ _ _ _ _ _ _ _ _ _ _ _ _ _ _ _ _ _ _ _ _ _ _ _ _ _ _ _ _ _ _ _ _ _ _ _ _ _ _ _ _ (hide ?_);rintro w10 st7 refs ar cr y13 y14 y15 y57 y58 y59 y60 y61 y62 y63 y64 y65 y66 y67 y68 y69 y70 y71 y72 y73 y74 y75 y76 y77 y78 y79 y80 y81 y82 y83 y84 y85 y86 y87 y88 y89 y90 y91 y92 y93 y94 y95 y96 y97 y98 y99 y100 y101 y102 y103 ⟨hQ10,hF10,hX10,hO10,hL10,hR10⟩;have HRF2:=hide hR10;have HQ10:=hide hQ10;have HF10:=hide hF10;have HX10:=hide hX10;have HO10:=hide hO10;clear HQ9 HF9 HX9 hQ10 hF10 hX10 hO10 hR10;have c1:w10.cell? ⟨w.heap.size,1,none⟩=some (.int .i64 st7.pos):=by simp[World.cell?,HQ10.out.blk]
      have cN:=hide (rnext_any HQ10.out 8 (by omega) hs);obtain ⟨W8,hW8⟩:∃W8,nextN s.data.toList 8 st7=W8:=⟨_,rfl⟩;rw[hW8]at cN;obtain ⟨st8,q⟩:=W8;have HW8:=hide hW8;have hle7:=HQ10.out.le;clear hW8
      go_wp2_with fail
      refine cN.out.mono ?_;rintro e w11 ⟨rfl,hq11⟩;have HQ11:=hide hq11.1;have HF11:=hide (HF10.out.trans (FRX.qp hq11 (by omega)));have HX11:=hide (hq11.2.2 _ _ _ _ HX10.out (by decide));have HO11:=hide (own_same HO10.out fun g hg=>by
       obtain ⟨c,fz,hc⟩:=own_kind HO10.out g hg;exact (hq11.2.2 _ _ _ _ hc (by decide)).trans hc.symm)
      have hs11:=hq11.2.1.size;clear cN HQ10 HF10 HX10 HO10 hq11 c1;have c2:w11.cell? ⟨w.heap.size,2,none⟩=some (.int .i64 st8.e):=by simp[World.cell?,HQ11.out.blk]
      have hX11:=lt_of_block HX11.out;have hfd:=HFD.out;rw[entN_of HW2.out HST3.out HST4.out HST5.out HST6.out HRF2.out HW8.out]at hfd
      by_cases he8:st8.e=0
      ·rw[if_pos he8]at hfd;simp only at hfd;have HFD2:=hide hfd;have htr:=live_tree (by omega) HST5.out HST6.out HRF2.out HW8.out he8;have HTR:=hide htr;obtain ⟨av,cv,hv8,_⟩:=own_sl HQ11.out.nd;subst hv8;have c4:w11.cell? ⟨w.heap.size,4,none⟩=some (.slice av st8.l.length cv):=by simp[World.cell?,HQ11.out.blk]
       have x1:w11.cell? ⟨X,1,none⟩=some (.slice none 0 0):=by simp[World.cell?,HX11.out]
       have f1:w11.frozen? ⟨X,1,none⟩=false:=by simp[World.frozen?,HX11.out]
       have hmono:=ent_mono HW2.out HST3.out HST4.out HST5.out HST6.out HRF2.out HW8.out;have hle8:=HQ11.out.le;clear hfd HFD htr
       go_upto_if 114 with fail
       go_cut [] from 27 to 170 (fun wd=>w11=wd)
       case first=>
        go_wp2;go_meet;exact rfl
       case rest=>
       subst hcut
       go_step
       refine keep33 F b w.heap.size X B8 s d st7 st8 p q refs a8 a9 a10 av ar c8 c9 c10 cv cr w3 w11 hs hR3 hB8' HXe hX11 HOK hal0 (by have:=HOK.out.cl;omega) (by have:=HOK.out.fl;omega) (by omega) HTR HQ11 HF11 HX11 HO11 HDC3 _ _ _ _ _ _ _ _ _ _ _ _ _ _ _ _ _ _ _ _ _ _ _ _ _ _ _ _ _ _ _ _ _ _ _ _ _ _ _ _ _ _ _ _ _ _ _ _ _ _ _ _ _ _ _ _ _ _ _ _ _ _ _ _ _ _ _ _ _ _ _ _ _ _ _ _ _ _ _ _ _ _ _ _ _ _ _ _ _ _ _ _ _ _ _ _ _ _ _ _ _ _ _ _ _ _ _ _ _ _ _ _ _ _ _ _ _ _ _ _ _ _ _ _ _ _ _ _ _ _ _ _ _ _ _ _ _ _ _ _ _ _ _ _ _ _ _ _ _ _ _ _ _ _ _ _ _ _ _ _ _ _ _ _ _ _ _ _ _ _ _ _ _ _ _ _ _ _ _ _ _ _ _ _ _ _ _ _ _ _ _ _ _ _ (hide ?_);rintro w12 y8 y9 y10 y17 y27 y28 y29 y30 y31 y32 y33 y34 y35 y36 y37 y38 y39 y40 y41 y42 y43 y44 y45 y46 y47 y48 y49 y50 y51 y52 y53 y54 y55 y56 y57 y58 y59 y60 y61 y62 y63 y64 y65 y66 y67 y68 y69 y70 y71 y72 y73 y74 y75 y76 y77 y78 y79 y80 y81 y82 y83 y84 y85 y86 y87 y88 y89 y90 y91 y92 y93 y94 y95 y96 y97 y98 y99 y100 y101 y102 y103 y104 y105 y106 y107 y108 y109 y110 y111 y112 y113 y114 y115 y116 y117 y118 y119 y120 y121 y122 y123 y124 y125 y126 y127 y128 y129 y130 y131 y132 y133 y134 y135 y136 y137 y138 y139 y140 y141 y142 y143 y144 y145 y146 y147 y148 y149 y150 y151 y152 y153 y154 y155 y156 y157 y158 y159 y160 y161 y162 y163 y164 y165 y166 y167 y168 y169 y170 ⟨b8,b9,b10,e8,e9,e10,rfl,rfl,rfl,hq12,hd12,hb12⟩;have HQ12:=hide hq12;have HD12:=hide hd12;have HBB:=hide (HB3.out.trans hb12);have hpos8:=keepN_pos d st8 p q refs st7.pos;have hp12:=hq12.posIn;rw[hpos8]at hp12;have HOK12:=hide (HOK.out.keep (p:=p) (q:=q) (refs:=refs) (k:=st7.pos) hal0 HTR.out.1 (by omega) (by omega));clear hq12 hd12 hb12 HQ11 HF11 HX11 HO11 HDC3 HB3;go_wp2;go_roundw
       case rel=>exact ⟨keepN d st8 p q refs st7.pos,B8,_,b8,b9,b10,e8,e9,e10,rfl,rfl,rfl,hB8',HQ12,HD12,HBB,HOK12,hide ⟨f',fun _=>by rw[hpos8];omega,HFD2.out⟩⟩
       case measure=>rw[hp12,hpio];omega
      ·rw[if_neg he8]at hfd;simp only at hfd;have HFD2:=hide hfd;have HDC11:=hide (HDC3.out.frx (by rw[HXe.out];exact HF11.out));have HB11:=hide (HB3.out.trans HF11.out.lo);clear hfd HFD HDC3 HB3 HF11 HX11 HO11;go_wp2;go_meet;have hfd:=HFD2.out;exact ⟨B8,v8,a8,a9,a10,c8,c9,c10,by rw[← hfd],by rw[← hfd],by rw[← hfd],hB8',hide (by rw[← hfd];exact HQ11.out),hide (by rw[← hfd];exact HDC11.out),HB11⟩
   ·have htb:(t1.toList == [112,97,116,104])=false:=by rw[← path_list];exact eqB_false ht
    have hD2:D=⟨st1,d.l,d.came,d.fresh⟩:=by
     obtain ⟨f,hf,hfD⟩:=HIM.out;cases f with
     | zero=>
      have hne:d.st.e≠0:=fun e=>by have:=hf e;omega
      rw[impN_zero]at hfD;rw[word_dead hne]at hW1;injection hW1 with h1 _
      rw[← hfD,← h1]
     | succ f'=>
      rw[impN_succ,hW1]at hfD;simp only at hfD;rw[if_neg ht]at hfD;exact hfD.symm
    have HD2:=hide hD2;clear hD2 HIM hW1 ht
    go_wp2_with fail
    refine cW.out.mono ?_;rintro e w2 ⟨rfl,hq2⟩;have HQ2:=hide hq2.1;have HDC2:=hide (HDC.out.qp (by omega) hq2);have HB2:=hide (HB.out.trans (hq2.2.1.1 w.heap.size (by omega) (Nat.le_refl _)));clear cW HQ HDC HB hq2;go_wp2;go_meet;have hfd:=HD2.out;exact ⟨B,v,a8,a9,a10,c8,c9,c10,by rw[hfd],by rw[hfd],by rw[hfd],hB,hide (by rw[hfd];exact HQ2.out),hide (by rw[hfd];exact HDC2.out),HB2⟩
 case rest=>
  obtain ⟨B,v,a8,a9,a10,c8,c9,c10,rfl,rfl,rfl,hB,HQ,HDC,HB⟩:=hcut;clear HQ1 HDC1 HB1 c0;have c1:wc.cell? ⟨w.heap.size,1,none⟩=some (.int .i64 D.st.pos):=by simp[World.cell?,HQ.out.blk]
  go_upto_if 177 with fail
  go_cut [] from 171 to 201 (fun wd=>Hid (QP B w.heap.size wc s v (D.st.failIf (decide (D.st.pos<s.data.toList.length)) 10 D.st.pos) wd))
  case first=>
   by_cases hlt:D.st.pos<s.size
   ·have hltz:(D.st.pos:Int)<s.size:=by omega
    have cF:=hide (rfail_any HQ.out 10 D.st.pos);clear HQ HDC HB
    go_wp2_with fail
    refine cF.out.mono ?_;rintro e w5 ⟨⟨r5,rfl⟩,hq5⟩;go_wp2;go_meet;exact hide (by rw[decide_eq_true (show D.st.pos<s.data.toList.length by omega)];exact hq5)
   ·have hltz:¬ (D.st.pos:Int)<s.size:=by omega
    have HM:=hide HQ.out.same;clear HQ HDC HB;go_wp2;go_meet;exact hide (by rw[decide_eq_false (show ¬ D.st.pos<s.data.toList.length by omega)];exact HM.out)
  case rest=>
   have hq:=hcut.out;obtain ⟨st,hst⟩:∃st,D.st.failIf (decide (D.st.pos<s.data.toList.length)) 10 D.st.pos=st:=⟨_,rfl⟩;rw[hst]at hq;have HD2:=hide (HDC.out.qp (by omega) hq);have hbd:=HB.out.trans (hq.2.1.1 w.heap.size (by omega) (Nat.le_refl _));have HBd:=hide hbd;have hRd:=hq.1.lt;have hblk:=hq.1.blk;obtain ⟨_,lb,hbb,⟨ab,cb,rfl,_⟩,_⟩:=HST.out;have hbb:=(hbd.block b hblt).trans hbb;have HBB:=hide hbb;clear hcut HQ HDC HB c1 hq hbd
   by_cases he:st.e=0
   ·have hR:=docEnd_yes (A:=A) hst he;rw[HEnd.out]at hR;subst hR;have HFIN:=hide (HD2.out.fin HF.out hRd HBd.out hblt hbb);have f0:wc.frozen? ⟨b,0,none⟩=false:=by simp[World.frozen?,hbb]
    have cb0:wc.cell? ⟨b,0,none⟩=some (.slice ab lb.length cb):=by simp[World.cell?,hbb]
    have c2:wc.cell? ⟨w.heap.size,2,none⟩=some (.int .i64 0):=by simp[World.cell?,hblk,he]
    clear hbb hblk hst he HD2 HBd HEnd HST HF HG HBB;go_wp2;go_ret3;exact ⟨_,rfl,HFIN.out.2.2,HFIN.out.1,HFIN.out.2.1⟩
   ·have hR:=docEnd_no (A:=A) hst he;rw[HEnd.out]at hR;subst hR;have hneb:(st.e == 0)=false:=beq_eq_false_iff_ne.2 he;have c2:wc.cell? ⟨w.heap.size,2,none⟩=some (.int .i64 st.e):=by simp[World.cell?,hblk]
    have c3:wc.cell? ⟨w.heap.size,3,none⟩=some (.int .i64 st.bad):=by simp[World.cell?,hblk]
    clear hbb hblk hst he HD2 HEnd HF HG HBB;go_wp2
    go_quiet (fail)
    go_wp2;go_ret3;exact ⟨_,rfl,⟨none,0,rfl,by simp[noR],fun h=>by simp[noR]at h⟩,HST.out.below (below_drewN HBd.out _),Wrote.of hblt (below_drewN HBd.out _)⟩
end Go.Proofs.YticfcjmlphhpgaaGreatDoor
