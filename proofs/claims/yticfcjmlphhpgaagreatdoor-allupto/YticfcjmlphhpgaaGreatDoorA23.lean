import Derived.Test.YticfcjmlphhpgaaGreatDoorA21
import Derived.Test.YticfcjmlphhpgaaGreatDoorA22
set_option maxRecDepth 20000
set_option maxHeartbeats 8000000
namespace Go.Proofs.YticfcjmlphhpgaaGreatDoor
open Go.RowKit
def boolN:Value→Nat
 | .bool true=>1
 | _=>0
theorem any_lack {S:List Ent} {roots:List ByteArray} (h:∀k (hk:k<roots.length),(findS S roots[k]).isNone=false):lackR S roots=false:=by
 unfold lackR;rw[List.any_eq_false];intro y hy;obtain ⟨k,hk,rfl⟩:=List.getElem_of_mem hy;rw[h k hk];simp
theorem own_cellS {w:World} {B g cap:Nat} {ss:List ByteArray} (h:w.ownsRow B 9 1 (.slice (some ⟨g,0,none⟩) ss.length cap) ss.length (ss.map Value.string)) (k:Nat) (hk:k<ss.length):w.cell? ⟨g,k,none⟩=some (.string ss[k]):=by
 rw[h.cellAt k (by omega)];simp[hk]
theorem findS_eq {S:List Ent} (hR:Rising S) {e:Ent} (he:e∈S):findS S e.path=some e:=by
 cases hf:findS S e.path with
 | none=>
  have:=findS_mem ⟨e,he,rfl⟩;rw[hf]at this;cases this
 | some e'=>
  obtain ⟨h1,h2⟩:=findS_some hf;rw[HP.rise_uniq hR h1 he h2]
theorem rClosure_any (b:Nat) (S:List Ent) (vr:Value) (roots:List ByteArray) (w:World) (h:RSt w b S) (hC:ClosedS S) (hr:SliceS w vr roots) (hl:roots.length≤1000000) :
  Calls Tryz.prog 28 #[.pointer (some ⟨b,0,none⟩),vr] w fun e w'=>∃v out,e=.returned (.tuple #[v,.int .i64 (if lackR S roots=true then 15 else 0)])∧w'.ownsRow w.heap.size 9 1 v out.length (out.map Value.string)∧ClosR S roots out∧Below w.heap.size w w':=by
 obtain ⟨i9,hi9,h90,h91,h92⟩:=info_parts Tryz.info9;have H:=hide h;have HC:=hide hC;obtain ⟨v,l,hS1,hS2,hS3,hS4⟩:=h.at_;obtain ⟨av,cv,rfl,hcv,hcE⟩:=hS2;have hfew:=hC.few;have HLEN:=hide hS3.length;have hl10:l.length≤10:=by have:=HLEN.out;omega
 have HS2:Hid (SliceE w (.slice av l.length cv) l):=hide ⟨av,cv,rfl,hcv,hcE⟩;have HS3:=hide hS3;have HS1:=hide hS1;have HCE:=hide hcE;obtain ⟨ra,rc,rfl,_,hcr⟩:=hr;have HCR:=hide hcr;obtain ⟨RES,hRES⟩:∃R:Int × Prop,R.1=(if lackR S roots=true then 15 else 0):=⟨(_,True),rfl⟩;obtain ⟨rz,hrz⟩:∃rz:Int,rz=(if lackR S roots=true then 15 else 0):=⟨_,rfl⟩;rw[← hrz];clear hRES RES;have HRZ:=hide hrz;have CB:Hid (∀V:World,Below w.heap.size w V→V.cell? ⟨b,0,none⟩=some (.slice av l.length cv)):=hide fun V hV=>cellB hV (by simp[World.cell?,HS1.out])
 clear h hC hS1 hS3 hS4 hcE hcr hrz;go_enter Tryz.func28,Tryz.ntmps28;go_wp2
 go_loopw [6,21] (fun o iv w1=>∃(j:Nat) (a1:Option Addr) (c1:Nat),j≤roots.length∧iv=.int .i64 j∧o=.slice a1 j c1∧Hid (Below w.heap.size w w1)∧Hid (w1.ownsRow w.heap.size 9 1 (.slice a1 j c1) j ((roots.take j).map Value.string))∧Hid (∀k (hk:k<roots.length),k<j→(findS S roots[k]).isNone=false)) (fun _ iv _=>roots.length - (intOf iv).toNat)
 case atStart=>exact ⟨0,none,0,by omega,rfl,rfl,hide (Below.refl _ _),hide (World.ownsRow_nil _ _ _ _),hide (fun k _ hk=>by omega)⟩
 case round=>
  obtain ⟨j,a1,c1,hj,rfl,rfl,HB,HO,HALL⟩:=hrel;have hsz:=HB.out.size
  by_cases hlt:j<roots.length
  ·have hltz:(j:Int)<roots.length:=by omega
   obtain ⟨rb,roff,rfl,hrb,hcells⟩:=HCR.out (by omega);have c0:=(HB.out.cell (p:=⟨rb,roff+j,none⟩) hrb).trans (hcells j hlt);have cb:=CB.out wr HB.out;have cA:=hide (at_any (.slice av l.length cv) l roots[j] wr (HS2.out.below HB.out) (by omega));have HM:Hid ((roots.take (j+1)).map Value.string=(roots.take j).map Value.string++[.string roots[j]]):=map_snocS roots j hlt;rcases HS3.out.find roots[j] with ⟨hf1,hf2⟩ | ⟨k,hk1,hk2,hf1,hf2⟩
   ·have hlack:lackR S roots=true:=List.any_eq_true.2 ⟨roots[j],List.getElem_mem _,by rw[hf1];rfl⟩;have hz:=HRZ.out;rw[hlack,if_pos rfl]at hz;subst hz;have HCL:Hid (ClosR S roots []):=hide (by unfold ClosR;rw[if_pos hlack]);rw[hf2]at cA;generalize roots[j]=z at c0 cA;clear hcells hf1 hf2 hlack HM
    go_wp2_with fail
    refine cA.out.mono ?_;rintro e w2 ⟨rfl,hb2⟩;have HB2:=hide (HB.out.trans (hb2.mono hsz));clear hb2 cA c0 cb;go_wp2
    go_ret2
    exact ⟨_,[],rfl,World.ownsRow_nil _ _ _ _,HCL.out,HB2.out⟩
   ·have HALL':Hid (∀k (hk:k<roots.length),k<j+1→(findS S roots[k]).isNone=false):=hide fun i hi hij=>by
     by_cases e':i=j
     ·subst e';rw[hf2];rfl
     ·exact HALL.out i hi (by omega)
    rw[hf1]at cA;have hkz:¬ (k:Int)<0:=by omega
    generalize roots[j]=z at c0 cA HM;clear hcells hf1 hf2 HALL
    go_wp2_with fail
    refine cA.out.mono ?_;rintro e w2 ⟨rfl,hb2⟩;have HB2:=hide (HB.out.trans (hb2.mono hsz));have HO2:=hide (own_below HO.out hb2);have hsz2:=HB2.out.size;clear hb2 cA c0 cb HO HB
    go_wp2_with (at_builtin;refine wpList_append_own _ rfl (.tmp 32) (.tmp 34) 26 rfl w.heap.size 9 i9 (.string ⟨#[]⟩) 1 16 Tryz.underlying26 hi9 h90 h91 h92 rfl (by decide) _ _ _ rfl (HO2.out.alloc _) ⟨w2.heap.size,0,none⟩ 1 1 [.string z] rfl rfl (cell_one_at _ _ _ _ rfl) (fun x hx=>by simp at hx;subst hx;rfl) (by unfold maxLen;omega) (by omega) (by simp;omega) ?_;intro v3 w3 hown3 hgrow3 hnil3;have HB3:=hide ((HB2.out.alloc hsz2 _).grown hgrow3 (by simp;omega) (fun k hk=>(HO2.out.lt k hk).1));obtain ⟨g3,cap3,rfl,hcap3⟩:=own_form hown3 (by omega);have HO3:=hide hown3;clear hown3 hgrow3 hnil3)
    go_roundw
    case rel=>exact ⟨j+1,some ⟨g3,0,none⟩,cap3,by omega,by go_num,rfl,HB3,hide (by rw[HM.out];exact HO3.out),HALL'⟩
    case measure=>simp[intOf];omega
  ·obtain rfl:j=roots.length:=by omega
   have hltz:¬ ((roots.length:Nat):Int)<roots.length:=by omega
   have hlack:lackR S roots=false:=any_lack (fun k hk=>HALL.out k hk hk);have hz:=HRZ.out;rw[hlack,if_neg (by simp)]at hz;subst hz;have HCL:Hid (∀out,HP.Final (HP.rchB S roots) S out→ClosR S roots out):=hide fun out ho=>by unfold ClosR;rw[if_neg (by rw[hlack];simp)];exact ho
   have HGA:Hid (HP.Ga S roots roots 0):=hide (HP.Ga.start fun x hx=>by
    obtain ⟨k,hk,rfl⟩:=List.getElem_of_mem hx;exact findS_not (HALL.out k hk hk))
   have hO:=HO.out;rw[List.take_length]at hO;have HO1:=hide hO;clear hO HO HALL hlack;go_wp2
   go_loopw [6,9] (fun o kv w2=>∃(k:Nat) (all:List ByteArray) (a:Option Addr) (c:Nat),kv=.int .i64 k∧o=.slice a all.length c∧Hid (Below w.heap.size w w2)∧Hid (w2.ownsRow w.heap.size 9 1 (.slice a all.length c) all.length (all.map Value.string))∧Hid (HP.Ga S roots all k)) (fun _ kv _=>roots.length+S.length - (intOf kv).toNat)
   case atStart=>exact ⟨0,roots,_,_,rfl,rfl,HB,HO1,HGA⟩
   case round=>
    obtain ⟨k,all,a,c,rfl,rfl,HB2,HO2,HG2⟩:=hrel;clear HB HO1 HGA;have hGl:=HG2.out.l;have hGk:=HG2.out.kl
    by_cases hlt:k<all.length
    ·have hltz2:(k:Int)<all.length:=by omega
     obtain ⟨hRk,E0,hE0,hE0p⟩:=HG2.out.a all[k] (List.getElem_mem _);have hfS:=findS_eq HC.out.rise hE0;rw[hE0p]at hfS;rcases HS3.out.find all[k] with ⟨hf1,_⟩ | ⟨i,hi1,hi2,hf1,hf2⟩
     ·rw[hf1]at hfS;cases hfS
     ·rw[hf2]at hfS;injection hfS with hfS
      obtain ⟨_,_,hy2⟩:=HS3.out.get i hi1 hi2;rw[hfS]at hy2;have HREF:=hide (fun r hr=>HC.out.ref E0 hE0 r hr);have hrl:=HC.out.refs E0 hE0;have HE0:=hide hE0;have HRK:Hid (HP.Rch S roots E0.path):=hide (by rw[hE0p];exact hRk);have HKP:Hid (all[k]?=some E0.path):=hide (by rw[List.getElem?_eq_getElem hlt,hE0p]);obtain ⟨be,offe,hav,hbe,hE⟩:=HCE.out (by omega);subst hav;obtain ⟨_,_,e82⟩:=hE i hi1;obtain ⟨g,ca,hga,_⟩:=own_form HO2.out (by omega);injection hga with hga _ hcc
      subst hga;subst hcc;have ck:=own_cellS HO2.out k hlt;have cb:=CB.out wr HB2.out;have cA:Hid (∀V:World,Below wr.heap.size wr V→Calls Tryz.prog 39 #[.slice (some ⟨be,offe,none⟩) l.length cv,.string all[k]] V fun e w'=>e=.returned (.int .i64 (i:Nat))∧Below V.heap.size V w'):=hide fun V hV=>by
       have:=at_any _ l all[k] V ((HS2.out.below HB2.out).below hV) (by omega)
       rwa [hf1]at this
      have HY2:=hide hy2;have HE82:=hide (cellB HB2.out e82);clear hE e82 hy2 hf1 hf2 hfS hE0p hE0 hRk;generalize all[k]=z at ck cA;generalize l[i]=y at HY2 HE82;obtain ⟨yp,ta,tn,tc,fa,fn,fc⟩:=y;unfold REn.refs at HY2 HE82;simp only at HY2 HE82;obtain ⟨fa',fc',hfe,_,hfcells⟩:=HY2.out;injection hfe with hfe1 hfe2 hfe3
      subst hfe1;subst hfe2;subst hfe3;have HFC:=hide hfcells;clear hfcells;go_wp2;refine wp_mono (reg28_12 b g be offe l.length cv all.length c k i z fa E0.refs.length fc wr hlt hi1 cb ck HE82.out cA.out _ _ _ _ _ _ _ _ _ _ _ _ _ _ _ _ _ _ _ _ _ _ _ _ _ _ _ _ _ _ _ _ _ _ _ _ _ _ _ _ _ _ _ _ _ _ _ _ _ _ _ _ _ _ _ _ _ _ _ _ _ _ _ _ _ _ _ _ _ _ _ _ _ _ _ _ _ _ _ _ _ _ _ _ _ _ _ _ _ _ _ _ _ _ _ _ _ _ _ _ _ _ _ _ _ _ _ _ _ _ _ _ _ _ _ _ _ _ _) (reg_then ?_);rintro a' w3 ⟨⟨v43,v44,v45,v46,v47,v48,v49,v50,v51,v52,v53,v54,v55,v56,v57,rfl⟩,hb3⟩;have HB3:=hide (HB2.out.trans (hb3.mono HB2.out.size));have HO3:=hide (own_below HO2.out hb3);clear hb3 cb ck cA HE82 HB2 HO2 HY2;go_wp2
      go_loopw [6,60] (fun o iv w4=>∃(j:Nat) (all:List ByteArray) (a:Option Addr) (c:Nat),j≤E0.refs.length∧iv=.int .i64 j∧o=.slice a all.length c∧Hid (Below w.heap.size w w4)∧Hid (w4.ownsRow w.heap.size 9 1 (.slice a all.length c) all.length (all.map Value.string))∧Hid (HP.Ga S roots all k∧all[k]?=some E0.path∧∀i (hi:i<E0.refs.length),i<j→E0.refs[i]∈all)) (fun _ iv _=>E0.refs.length - (intOf iv).toNat)
      case atStart=>exact ⟨0,all,_,_,by omega,rfl,rfl,HB3,HO3,hide ⟨HG2.out,HKP.out,fun i _ hi=>by omega⟩⟩
      case round=>
       obtain ⟨j,all,a,c,hj,rfl,rfl,HB4,HO4,HG4⟩:=hrel;clear HB3 HO3 HG2 HKP;have hal:=HG4.out.1.l;have hsz4:=HB4.out.size
       by_cases hltj:j<E0.refs.length
       ·have hltz3:(j:Int)<E0.refs.length:=by omega
        obtain ⟨fb,fo,hfa,hfb,hfc⟩:=HFC.out (by omega);subst hfa;have c0:=(HB4.out.cell (p:=⟨fb,fo+j,none⟩) hfb).trans (hfc j hltj);have cI:=hide (rin_any (.slice a all.length c) all E0.refs[j] wr (own_strs HO4.out) (by omega));cases hin:inL all E0.refs[j] with
        | true=>
         have HG5:Hid (HP.Ga S roots all k∧all[k]?=some E0.path∧∀i (hi:i<E0.refs.length),i<j+1→E0.refs[i]∈all):=hide ⟨HG4.out.1,HG4.out.2.1,fun i hi hij=>by
          by_cases e':i=j
          ·subst e';exact HP.inL_iff.1 hin
          ·exact HG4.out.2.2 i hi (by omega)⟩
         rw[hin]at cI;generalize E0.refs[j]=r at c0 cI;clear hfc hin HG4
         go_wp2_with fail
         refine cI.out.mono ?_;rintro e w5 ⟨rfl,rfl⟩;go_wp2;go_roundw
         case rel=>exact ⟨j+1,all,a,c,by omega,by go_num,rfl,HB4,HO4,HG5⟩
         case measure=>simp[intOf];omega
        | false=>
         have hrm:=List.getElem_mem hltj;have HG5:Hid (HP.Ga S roots (all++[E0.refs[j]]) k∧(all++[E0.refs[j]])[k]?=some E0.path∧∀i (hi:i<E0.refs.length),i<j+1→E0.refs[i]∈all++[E0.refs[j]]):=hide ⟨HG4.out.1.app (.ref HRK.out HE0.out hrm) (HREF.out _ hrm) hin,by
          obtain ⟨hkl,_⟩:=List.getElem?_eq_some_iff.1 HG4.out.2.1;rw[List.getElem?_append_left hkl];exact HG4.out.2.1,fun i hi hij=>by
          by_cases e':i=j
          ·subst e';exact List.mem_append_right _ (List.mem_singleton.2 rfl)
          ·exact List.mem_append_left _ (HG4.out.2.2 i hi (by omega))⟩
         rw[hin]at cI;have HM:Hid (((all++[E0.refs[j]]).map Value.string)=all.map Value.string++[.string E0.refs[j]]∧(all++[E0.refs[j]]).length=all.length+1):=hide ⟨by rw[List.map_append];rfl,by rw[List.length_append];rfl⟩;generalize E0.refs[j]=r at c0 cI HG5 HM;clear hfc hin HG4 hrm
         go_wp2_with fail
         refine cI.out.mono ?_;rintro e w5 ⟨rfl,rfl⟩;clear cI c0
         go_wp2_with (at_builtin;refine wpList_append_own _ rfl (.tmp 68) (.tmp 70) 26 rfl w.heap.size 9 i9 (.string ⟨#[]⟩) 1 16 Tryz.underlying26 hi9 h90 h91 h92 rfl (by decide) _ _ _ rfl (HO4.out.alloc _) ⟨w5.heap.size,0,none⟩ 1 1 [.string r] rfl rfl (cell_one_at _ _ _ _ rfl) (fun x hx=>by simp at hx;subst hx;rfl) (by unfold maxLen;omega) (by omega) (by simp;omega) ?_;intro v6 w6 hown6 hgrow6 hnil6;have HB6:=hide ((HB4.out.alloc hsz4 _).grown hgrow6 (by simp;omega) (fun k hk=>(HO4.out.lt k hk).1));obtain ⟨g6,cap6,rfl,_⟩:=own_form hown6 (by omega);have HO6:=hide hown6;clear hown6 hgrow6 hnil6)
         go_roundw
         case rel=>exact ⟨j+1,all++[r],some ⟨g6,0,none⟩,cap6,by omega,by go_num,by rw[HM.out.2],HB6,hide (by rw[HM.out.1,HM.out.2];exact HO6.out),HG5⟩
         case measure=>simp[intOf];omega
       ·obtain rfl:j=E0.refs.length:=by omega
        have hltz3:¬ ((E0.refs.length:Nat):Int)<E0.refs.length:=by omega
        have HG5:Hid (HP.Ga S roots all (k+1)):=hide (HG4.out.1.next HC.out.rise HE0.out HG4.out.2.1 fun r hr=>by
         obtain ⟨i,hi,rfl⟩:=List.getElem_of_mem hr;exact HG4.out.2.2 i hi hi)
        have hkb:=HG5.out.kl;clear HG4;go_wp2;go_roundw
        case rel=>exact ⟨k+1,all,a,c,by go_num,rfl,HB4,HO4,HG5⟩
        case measure=>simp[intOf];omega
    ·obtain rfl:k=all.length:=by omega
     have hltz2:¬ ((all.length:Nat):Int)<all.length:=by omega
     have HP1:Hid (∀p,inL all p=HP.rchB S roots p):=hide HG2.out.done;have HAS:=hide (own_strs HO2.out);have hsz0:=HB2.out.size;have hall:=HG2.out.l;clear HO2 HG2;obtain ⟨w0,hw0⟩:∃w0,w0=wr:=⟨_,rfl⟩;subst hw0;go_wp2
     go_loopw [12,13] (fun o mv w4=>∃(out:List ByteArray) (a1:Option Addr) (c1:Nat) (m:Bool),o=.slice a1 out.length c1∧mv=.bool m∧Hid (Below w0.heap.size w0 w4)∧Hid (w4.ownsRow w0.heap.size 9 1 (.slice a1 out.length c1) out.length (out.map Value.string))∧Hid (HP.OrdSt (inL all) S out∧(m=false→HP.nextF (inL all) S out=none))) (fun o mv _=>2*(S.length - lenOf o)+boolN mv)
     case atStart=>exact ⟨[],none,0,true,rfl,rfl,hide (Below.refl _ _),hide (World.ownsRow_nil _ _ _ _),hide ⟨.nil,fun h=>by cases h⟩⟩
     case round=>
      obtain ⟨out,a1,c1,m,rfl,rfl,HB4,HO4,HS4⟩:=hrel;have hol:=HS4.out.1.len;cases m with
      | false=>
       have HB5:=hide (HB2.out.trans (HB4.out.mono hsz0));have HO5:=hide (own_base HO4.out hsz0);have HF:Hid (HP.Final (HP.rchB S roots) S out):=hide (HP.Final.congr (fun e _=>HP1.out e.path) ⟨HS4.out.1,HS4.out.2 rfl⟩);go_wp2
       go_ret2
       exact ⟨_,rfl,out,HO5.out,HCL.out _ HF.out,HB5.out⟩
      | true=>
       have cb:=CB.out wr (HB2.out.trans (HB4.out.mono hsz0));go_wp2
       go_loopw [12,13,79] (fun o mv iv w5=>∃i:Nat,i≤l.length∧iv=.int .i64 i∧o=.slice a1 out.length c1∧mv=.bool false∧Hid (Below w0.heap.size w0 w5)∧Hid (w5.ownsRow w0.heap.size 9 1 (.slice a1 out.length c1) out.length (out.map Value.string))∧Hid (∀j (hj:j<S.length),j<i→HP.condB (inL all) out S[j]=false)) (fun _ _ iv _=>l.length - (intOf iv).toNat)
       case atStart=>exact ⟨0,by omega,rfl,rfl,rfl,HB4,HO4,hide (fun j _ hj=>by omega)⟩
       case round=>
        obtain ⟨i,hi,rfl,rfl,rfl,HB5,HO5,HALL⟩:=hrel;have HOS:=hide HS4.out.1;clear HB4 HO4 HS4 cb
        by_cases hlti:i<l.length
        ·have hltiz:(i:Int)<l.length:=by omega
         have hiS:i<S.length:=by have:=HLEN.out;omega
         have HBW:=hide (HB2.out.trans (HB5.out.mono hsz0));obtain ⟨hyp,_,hy2⟩:=HS3.out.get i hlti hiS;obtain ⟨be,offe,hav,hbe,hE⟩:=HCE.out (by omega);subst hav;obtain ⟨e0,e1,e2⟩:=hE i hlti;have d0:=cellB HBW.out e0;have d1:=cellB HBW.out e1;have d2:=cellB HBW.out e2;have hrl:=HC.out.refs S[i] (List.getElem_mem _);have hes:Hid (∀b,HP.condB (inL all) out S[i]=b→HP.condB (inL all) out S[i]=b):=hide fun _ h=>h
         have HCO:Hid (HP.condB (inL all) out S[i]=(inL all S[i].path && !inL out S[i].path && HP.readyB out S[i])):=hide rfl;have HNX:Hid (HP.condB (inL all) out S[i]=true→HP.nextF (inL all) S out=some S[i]):=hide fun h=>HP.next_at i hiS h HALL.out
         have HST:Hid (HP.condB (inL all) out S[i]=false→∀j (hj:j<S.length),j<i+1→HP.condB (inL all) out S[j]=false):=hide fun h j hj hji=>by
          by_cases e':j=i
          ·subst e';exact h
          ·exact HALL.out j hj (by omega)
         have HY2:=hide hy2;clear hE e0 e1 e2 hy2 HALL hes;unfold REn.tree at d1;unfold REn.refs at d2;unfold REn.refs at HY2;rw[hyp]at d0;generalize S[i]=E at *;generalize l[i]=y at *;obtain ⟨yp,ta,tn,tc,fa,fn,fc⟩:=y;simp only at d1 d2 HY2 hyp;clear hyp;obtain ⟨fa',fc',hfe,_,hfcells⟩:=HY2.out;injection hfe with hfe1 hfe2 hfe3
         subst hfe1;subst hfe2;subst hfe3;have HFC:=hide hfcells;have HB6:=hide (HB5.out.alloc HB5.out.size (.cells #[.string E.path,.slice ta tn tc,.slice fa E.refs.length fc] 76));have HO6:=hide (HO5.out.alloc (.cells #[.string E.path,.slice ta tn tc,.slice fa E.refs.length fc] 76));have HI1:Hid (Calls Tryz.prog 47 #[.slice a all.length c,.string E.path] (wr.alloc (.cells #[.string E.path,.slice ta tn tc,.slice fa E.refs.length fc] 76)) fun e w'=>e=.returned (.bool (inL all E.path))∧w'=wr.alloc (.cells #[.string E.path,.slice ta tn tc,.slice fa E.refs.length fc] 76)):=hide (rin_any _ all E.path _ (HAS.out.below HB6.out) (by omega));have HI2:Hid (∀x,Calls Tryz.prog 47 #[.slice a1 out.length c1,.string x] (wr.alloc (.cells #[.string E.path,.slice ta tn tc,.slice fa E.refs.length fc] 76)) fun e w'=>e=.returned (.bool (inL out x))∧w'=wr.alloc (.cells #[.string E.path,.slice ta tn tc,.slice fa E.refs.length fc] 76)):=hide fun x=>rin_any _ out x _ (own_strs HO6.out) (by omega)
         clear hfcells HY2;cases hA:inL all E.path with
         | false=>
          have HST':=hide (HST.out (by rw[HCO.out,hA];rfl));rw[hA]at HI1;clear HNX HST HCO
          go_wp2_with fail
          refine HI1.out.mono ?_;rintro e w7 ⟨rfl,rfl⟩;go_wp2;go_roundw
          case rel=>exact ⟨i+1,by omega,by go_num,rfl,rfl,HB6,HO6,HST'⟩
          case measure=>simp[intOf];omega
         | true=>
          rw[hA]at HI1;have HI3:=hide (HI2.out E.path);cases hB:inL out E.path with
          | true=>
           have HST':=hide (HST.out (by rw[HCO.out,hA,hB];rfl));rw[hB]at HI3;clear HNX HST HCO
           go_wp2_with fail
           refine HI1.out.mono ?_;rintro e w7 ⟨rfl,rfl⟩
           go_wp2_with fail
           refine HI3.out.mono ?_;rintro e w8 ⟨rfl,rfl⟩;go_wp2;go_roundw
           case rel=>exact ⟨i+1,by omega,by go_num,rfl,rfl,HB6,HO6,HST'⟩
           case measure=>simp[intOf];omega
          | false=>
           rw[hB]at HI3;have HCO':Hid (HP.condB (inL all) out E=HP.readyUp out E E.refs.length):=hide (by rw[HCO.out,hA,hB,HP.readyUp_all];rfl);clear HCO hA hB
           go_wp2_with fail
           refine HI1.out.mono ?_;rintro e w7 ⟨rfl,rfl⟩
           go_wp2_with fail
           refine HI3.out.mono ?_;rintro e w8 ⟨rfl,rfl⟩;clear HI1 HI3 d0 d1 d2;go_wp2;have k6:=block_new wr (.cells #[.string E.path,.slice ta tn tc,.slice fa E.refs.length fc] 76);have p60:(wr.alloc (.cells #[.string E.path,.slice ta tn tc,.slice fa E.refs.length fc] 76)).cell? ⟨wr.heap.size,0,none⟩=some (.string E.path):=by simp only[World.cell?,k6];rfl
           have HBW6:=hide (HB2.out.trans (HB6.out.mono hsz0));clear k6;generalize wr.alloc (.cells #[.string E.path,.slice ta tn tc,.slice fa E.refs.length fc] 76)=W6 at HB6 HO6 HI2 p60 HBW6 ⊢;generalize wr.heap.size=q6 at p60 ⊢
           go_loopw [16,97] (fun okv jv w7=>∃j:Nat,j≤E.refs.length∧jv=.int .i64 j∧okv=.bool (HP.readyUp out E j)∧Hid (w7=W6)) (fun _ jv _=>E.refs.length - (intOf jv).toNat)
           case atStart=>exact ⟨0,by omega,rfl,by rw[HP.readyUp_zero],hide rfl⟩
           case round=>
            obtain ⟨j,hj,rfl,rfl,HW7⟩:=hrel;have hw7:=HW7.out;subst hw7;clear HW7
            by_cases hltj:j<E.refs.length
            ·have hltjz:(j:Int)<E.refs.length:=by omega
             obtain ⟨fb,fo,hfa,hfb,hfc⟩:=HFC.out (by omega);subst hfa;have c0:=(HBW6.out.cell (p:=⟨fb,fo+j,none⟩) hfb).trans (hfc j hltj);have hstep:=HP.readyUp_step out E j hltj;have HI4:=hide (HI2.out E.refs[j]);cases hru:HP.readyUp out E j with
             | false=>
              rw[hru,Bool.false_and]at hstep;have HRU:=hide hstep;generalize E.refs[j]=r at c0 HI4;clear hfc hstep hru HI4;go_wp2;go_roundw
              case rel=>exact ⟨j+1,by omega,by go_num,by rw[HRU.out],by first | exact hide rfl | exact hide trivial⟩
              case measure=>simp[intOf];omega
             | true=>
              rw[hru,Bool.true_and]at hstep
              by_cases er:E.refs[j]=E.path
              ·have hbq:(E.refs[j].toList == E.path.toList)=true:=by rw[er];simp
               rw[decide_eq_true er,Bool.true_or]at hstep;have HRU:=hide hstep;generalize E.refs[j]=r at c0 hbq;clear hfc hstep hru HI4 er;go_wp2;go_roundw
               case rel=>exact ⟨j+1,by omega,by go_num,by rw[HRU.out],by first | exact hide rfl | exact hide trivial⟩
               case measure=>simp[intOf];omega
              ·have hbq:=eqB_false er;rw[decide_eq_false er,Bool.false_or]at hstep;have HRU:=hide hstep;generalize E.refs[j]=r at c0 hbq HI4 HRU;clear hfc hstep hru er
               go_wp2_with fail
               refine HI4.out.mono ?_;rintro e w8 ⟨rfl,rfl⟩;go_wp2;go_roundw
               case rel=>exact ⟨j+1,by omega,by go_num,by rw[HRU.out],by first | exact hide rfl | exact hide trivial⟩
               case measure=>simp[intOf];omega
            ·obtain rfl:j=E.refs.length:=by omega
             have hltjz:¬ ((E.refs.length:Nat):Int)<E.refs.length:=by omega
             cases hru:HP.readyUp out E E.refs.length with
             | false=>
              have HST':=hide (HST.out (by rw[HCO'.out,hru]));clear hru HST HNX HCO' HI2;go_wp2;go_roundw
              case rel=>exact ⟨i+1,by omega,by go_num,rfl,rfl,HB6,HO6,HST'⟩
              case measure=>simp[intOf];omega
             | true=>
              have HOS':Hid (HP.OrdSt (inL all) S (out++[E.path])):=hide (.snoc HOS.out (HNX.out (by rw[HCO'.out,hru])));have hol':=HOS'.out.len;have hsz6:=HB6.out.size;rw[List.length_append,List.length_singleton]at hol';clear hru HST HNX HCO' HI2
              go_wp2_with (at_builtin;refine wpList_append_own _ rfl (.tmp 115) (.tmp 118) 26 rfl w0.heap.size 9 i9 (.string ⟨#[]⟩) 1 16 Tryz.underlying26 hi9 h90 h91 h92 rfl (by decide) _ _ _ rfl (HO6.out.alloc _) ⟨wr.heap.size,0,none⟩ 1 1 [.string E.path] rfl rfl (cell_one_at _ _ _ _ rfl) (fun x hx=>by simp at hx;subst hx;rfl) (by unfold maxLen;omega) (by omega) (by simp;omega) ?_;intro v9 w9 hown9 hgrow9 hnil9;have HB9:=hide ((HB6.out.alloc hsz6 _).grown hgrow9 (by simp;omega) (fun k hk=>(HO6.out.lt k hk).1));obtain ⟨g9,cap9,rfl,_⟩:=own_form hown9 (by omega);have HO9:=hide hown9;clear hown9 hgrow9 hnil9)
              go_roundw
              case rel=>exact ⟨out++[E.path],some ⟨g9,0,none⟩,cap9,true,by simp,rfl,HB9,hide (by rw[List.length_append,List.length_singleton,List.map_append,List.map_singleton];exact HO9.out),hide ⟨HOS'.out,fun h=>by cases h⟩⟩
              case measure=>simp[lenOf,boolN];omega
        ·obtain rfl:i=l.length:=by omega
         have hltiz:¬ ((l.length:Nat):Int)<l.length:=by omega
         have HN:Hid (HP.OrdSt (inL all) S out∧(false=false→HP.nextF (inL all) S out=none)):=hide ⟨HOS.out,fun _=>HP.next_no fun j hj=>HALL.out j hj (by have:=HLEN.out;omega)⟩;clear HALL;go_wp2;go_roundw
         case rel=>exact ⟨out,a1,c1,false,rfl,rfl,HB5,HO5,HN⟩
         case measure=>simp[lenOf,boolN]
def REFoot (F:Nat→Prop) (x:REn):Prop:=FootV F x.tree∧FootV F x.refs
theorem REFoot.mono {F F':Nat→Prop} {x:REn} (h:REFoot F x) (hF:∀k,F k→F' k):REFoot F' x:=⟨h.1.mono hF,h.2.mono hF⟩
def RStF (F:Nat→Prop) (w:World) (b:Nat) (S:List Ent):Prop:=∃v l,w.heap[b]?=some (.cells #[v] 48 (0,0))∧SliceE w v l∧REsAt w l S∧(S=[]→v=.slice none 0 0)∧FootV (fun k=>F k∧k<w.heap.size) v∧∀y∈l,REFoot (fun k=>F k∧k<w.heap.size) y
theorem RStF.st {F:Nat→Prop} {w:World} {b:Nat} {S:List Ent} (h:RStF F w b S):RSt w b S:=by
 obtain ⟨v,l,h1,h2,h3,h4,_⟩:=h;exact ⟨v,l,h1,h2,h3,h4⟩
theorem RStF.lt {F:Nat→Prop} {w:World} {b:Nat} {S:List Ent} (h:RStF F w b S):b<w.heap.size:=h.st.lt
theorem RStF.below {F:Nat→Prop} {w w':World} {b:Nat} {S:List Ent} (h:RStF F w b S) (hb:Below w.heap.size w w'):RStF F w' b S:=by
 obtain ⟨v,l,h1,h2,h3,h4,h5,h6⟩:=h;exact ⟨v,l,(hb.block _ (lt_of_block h1)).trans h1,h2.below hb,h3.mono (fun v ns h=>h.below hb) (fun v ss h=>h.below hb),h4,h5.mono fun k hk=>⟨hk.1,Nat.lt_of_lt_of_le hk.2 hb.size⟩,fun y hy=>(h6 y hy).mono fun k hk=>⟨hk.1,Nat.lt_of_lt_of_le hk.2 hb.size⟩⟩
theorem insR_mem {l:List REn} {x y:REn} (h:y∈insR l x):y=x∨y∈l:=by
 unfold insR at h;rcases List.mem_append.1 h with h | h
 ·rcases List.mem_append.1 h with h | h
  ·exact .inr (List.mem_of_mem_take h)
  ·exact .inl (List.mem_singleton.1 h)
 ·exact .inr (List.mem_of_mem_drop h)
theorem RStF.put {F:Nat→Prop} {w1 w8 w10:World} {b n c:Nat} {a:Option Addr} {S:List Ent} {x:Ent} {v:Value} {l:List REn} {y:REn} (hre:REsAt w8 l S) (hx:REAt w8 y x) (hf:findS S x.path=none)
  (ho:w10.ownsRow w8.heap.size 76 3 v (insR l y).length (flatR (insR l y))) (hb:Below w8.heap.size w8 w10) (hk:w10.heap[b]?=some (.cells #[.slice a n c] 48 (0,0))) (hb8:Below w1.heap.size w1 w8) (hblt:b<w1.heap.size) (hF:∀k,w1.heap.size≤k→F k) (h6:∀y∈l,REFoot (fun k=>F k∧k<w1.heap.size) y) (hy:REFoot (fun k=>F k∧k<w8.heap.size) y) :
  RStF F (w10.setCell ⟨b,0,none⟩ v) b (insS x S)∧Wrote b w1 (w10.setCell ⟨b,0,none⟩ v):=by
 have hz:(w10.setCell ⟨b,0,none⟩ v).heap.size=w10.heap.size:=by simp[World.setCell]
 obtain ⟨⟨v',l',h1,h2,h3,h4⟩,hW⟩:=RSt.put hre hx hf ho hb hk hb8 hblt;refine ⟨⟨v,insR l y,set_blk hk 0 v,own_ents (own_keepT ho (set_keepT hk (by decide))),(REsAt.ins hx hre hf).mono (fun v ns h=>sliceN_set hk (h.below hb)) (fun v ss h=>sliceS_set hk (h.below hb)),fun e=>?_,(own_newF ho (fun k hk=>hF k (Nat.le_trans hb8.size hk))).mono (fun k hk=>⟨hk.1,by rw[hz];exact hk.2⟩),fun z hz'=>?_⟩,hW⟩
 ·have:=h4 e;rw[set_blk hk 0 v]at h1;injection h1 with h1
  injection h1 with h1 _ _
  have:#[v]=#[v']:=h1;injection this with this
  injection this with this _
  rw[this];assumption
 ·rw[hz];rcases insR_mem hz' with rfl | hz'
  ·exact hy.mono fun k hk=>⟨hk.1,Nat.lt_of_lt_of_le hk.2 hb.size⟩
  ·exact (h6 z hz').mono fun k hk=>⟨hk.1,Nat.lt_of_lt_of_le hk.2 (Nat.le_trans hb8.size hb.size)⟩
theorem rInsertF_any (F:Nat→Prop) (b:Nat) (S:List Ent) (x:Ent) (vn vr:Value) (w:World) (h:RStF F w b S) (hF:∀k,w.heap.size≤k→F k) (hG:GoodS S) (hn:SliceN w vn x.nodes) (hsm:Small x.nodes) (hbk:refWrong x.nodes=none→bulk x.nodes≤1000000000) (hr:SliceS w vr x.refs) (hl:x.refs.length≤1000000) (hs:x.path.size≤1000000000) (hnil:∀n c,vr=.slice none n c→n=0∧c=0) :
  Calls Tryz.prog 20 #[.pointer (some ⟨b,0,none⟩),.string x.path,vn,vr] w fun e w'=>e=.returned (.int .i64 (insertF S x).1)∧RStF F w' b (insertF S x).2∧Wrote b w w':=by
 have hblt:=h.lt;obtain ⟨R,hR⟩:∃R,insertF S x=R:=⟨_,rfl⟩;rw[hR];unfold insertF at hR;have cI:=hide (rpath_any x.path w hs);have cP:=hide (Wrong_any vn x.nodes w hn hsm);have H:=hide h;have HF:=hide hF;have HN:=hide hn;have HR:=hide hr;have hGf:=hG.few;have HG:=hide hG;clear h hF hn hr hG;cases hpath:isPathB x.path.data.toList with
 | false=>
  rw[hpath,if_pos rfl]at hR;rw[hpath]at cI;subst hR;clear cP;go_enter Tryz.func20,Tryz.ntmps20
  go_wp2_with fail
  refine cI.out.mono ?_;rintro e w1 ⟨rfl,rfl⟩;go_wp2;go_ret;exact ⟨rfl,H.out,Wrote.of hblt (Below.refl _ _)⟩
 | true=>
  rw[hpath,if_neg (by simp)]at hR;rw[hpath]at cI;rw[firstW_ref]at hR;cases hw:refWrong x.nodes with
  | some k=>
   rw[hw,if_pos (by simp)]at hR;subst hR;rw[hw]at cP;simp only[wInt]at cP;go_enter Tryz.func20,Tryz.ntmps20
   go_wp2_with fail
   refine cI.out.mono ?_;rintro e w1 ⟨rfl,rfl⟩
   go_wp2_with fail
   refine cP.out.mono ?_;rintro e w2 ⟨rfl,hb2⟩;go_wp2;go_ret;exact ⟨rfl,H.out.below hb2,Wrote.of hblt hb2⟩
  | none=>
   rw[hw,if_neg (by simp)]at hR;rw[hw]at cP;simp only[wInt]at cP;have HT:=hide (IsTree.mk hw hsm (hbk hw));obtain ⟨ar,cr,hvr,_,hcr⟩:=HR.out;subst hvr;have hnil':ar=none→x.refs.length=0∧cr=0:=fun e=>by subst e;exact hnil _ _ rfl
   clear hnil;go_enter Tryz.func20,Tryz.ntmps20
   go_wp2_with fail
   refine cI.out.mono ?_;rintro e w1 ⟨rfl,rfl⟩
   go_wp2_with fail
   refine cP.out.mono ?_;rintro e w2 ⟨rfl,hb2⟩;have HB2:=hide hb2;clear cI cP hb2;go_wp2
   go_loopw [9,22] (fun _ i w3=>∃j n:Nat,j≤x.refs.length∧i=.int .i64 j∧Hid (w3=w2.drewN n)∧Hid (∀k (hk:k+1<x.refs.length),k+1<j→notAbove x.refs[k+1] x.refs[k]=false)) (fun _ i _=>x.refs.length - (intOf i).toNat)
   case atStart=>exact ⟨0,0,by omega,rfl,rfl,fun k _ hk=>by omega⟩
   case round=>
    obtain ⟨j,n,hj,rfl,HW,hall⟩:=hrel
    by_cases hlt:j<x.refs.length
    ·have hltz:(j:Int)<x.refs.length:=by omega
     cases j with
     | zero=>
      have hdec:decide ((0:Int)<0)=false:=rfl;have hall':Hid (∀k (hk:k+1<x.refs.length),k+1<1→notAbove x.refs[k+1] x.refs[k]=false):=fun k _ hk=>by omega
      clear hall;go_wp2
      go_quiet (fail)
      go_wp2;go_roundw
      case rel=>exact ⟨1,n+nq,by omega,by go_num,by show _=_;rw[HW.out,World.drewN_drewN],hall'⟩
      case measure=>simp[intOf];omega
     | succ j=>
      obtain ⟨b1,off1,rfl,hb1,hC1⟩:=hcr (by omega);have hcl:∀a:Addr,a.block=b1→wr.cell? a=w1.cell? a:=fun a ha=>by rw[HW.out];simp;exact HB2.out.cell (by omega)
      have c0:=(hcl ⟨b1,off1+(j+1),none⟩ rfl).trans (hC1 (j+1) hlt);have c1:=(hcl ⟨b1,off1+j,none⟩ rfl).trans (hC1 j (by omega));have hdec:decide ((0:Int)<((j+1:Nat):Int))=true:=decide_eq_true (by omega);have hpos:(0:Int)<((j+1:Nat):Int):=by omega
      have hsub:((j+1:Nat):Int) - 1=j:=by omega
      cases hna:notAbove x.refs[j+1] x.refs[j] with
      | true=>
       have hrise:riseL x.refs=false:=riseL_no j hlt hna;rw[hrise,if_pos rfl]at hR;subst hR;unfold notAbove at hna;generalize x.refs[j+1]=z at c0 hna;generalize x.refs[j]=y at c1 hna;clear hall hcl hC1;go_wp2
       go_quiet (fail)
       go_wp2;go_ret;have hb3:Below w1.heap.size w1 (wr.drewN nq):=by rw[HW.out,World.drewN_drewN];exact below_drewN HB2.out _
       exact ⟨rfl,H.out.below hb3,Wrote.of hblt hb3⟩
      | false=>
       have hall':Hid (∀k (hk:k+1<x.refs.length),k+1<j+1+1→notAbove x.refs[k+1] x.refs[k]=false):=fun k hk hkj=>by
        by_cases e':k=j
        ·subst e';exact hna
        ·exact hall.out k hk (by omega)
       unfold notAbove at hna;generalize x.refs[j+1]=z at c0 hna;generalize x.refs[j]=y at c1 hna;clear hall hcl hC1;go_wp2
       go_quiet (fail)
       go_wp2;go_roundw
       case rel=>exact ⟨j+1+1,n+nq,by omega,by go_num,by show _=_;rw[HW.out,World.drewN_drewN],hall'⟩
       case measure=>simp[intOf];omega
    ·have hrise:riseL x.refs=true:=riseL_yes (fun k hk=>hall.out k hk (by omega));rw[hrise,if_neg (by simp)]at hR;have hltz:¬ (j:Int)<x.refs.length:=by omega
     have HB3:Hid (Below w1.heap.size w1 wr):=by rw[HW.out];exact below_drewN HB2.out _
     clear hall HW HB2 hrise;obtain ⟨v,l,hS1,hS2,hS3,hS4,_,hS6⟩:=H.out;obtain ⟨av,cv,hv,hcv,hcE⟩:=hS2;subst hv;have HS1:=hide hS1;have HS2:Hid (SliceE w1 (.slice av l.length cv) l):=⟨av,cv,rfl,hcv,hcE⟩;have HS3:=hide hS3;have HS4:=hide hS4;have HS6:=hide hS6;have HLEN:=hide hS3.length;have hl10:l.length≤10:=by have:=HLEN.out;omega
     clear hS1 hS3 hS4 hcE hS6;go_wp2
     go_loopw [11,42] (fun _ i w4=>∃j:Nat,j≤x.refs.length∧i=.int .i64 j∧Hid (Below w1.heap.size w1 w4)∧Hid (∀k (hk:k<x.refs.length),k<j→lackS S x.path x.refs[k]=false)) (fun _ i _=>x.refs.length - (intOf i).toNat)
     case atStart=>exact ⟨0,by omega,rfl,HB3,hide (fun k _ hk=>by omega)⟩
     case round=>
      obtain ⟨j2,hj2,rfl,HB4,hall⟩:=hrel
      by_cases hlt2:j2<x.refs.length
      ·have hltz2:(j2:Int)<x.refs.length:=by omega
       obtain ⟨b1,off1,rfl,hb1,hC1⟩:=hcr (by omega);have c0:=(HB4.out.cell (p:=⟨b1,off1+j2,none⟩) hb1).trans (hC1 j2 hlt2)
       by_cases er:x.refs[j2]=x.path
       ·have hb:(x.refs[j2].toList == x.path.toList)=true:=by rw[er];simp
        have hall':Hid (∀k (hk:k<x.refs.length),k<j2+1→lackS S x.path x.refs[k]=false):=fun k hk hkj=>by
         by_cases e':k=j2
         ·subst e';unfold lackS;rw[decide_eq_true er];rfl
         ·exact hall.out k hk (by omega)
        generalize x.refs[j2]=z at c0 hb;clear hall hC1 er;go_wp2;go_roundw
        case rel=>exact ⟨j2+1,by omega,by go_num,HB4,hall'⟩
        case measure=>simp[intOf];omega
       ·have hb:=eqB_false er;have cc:wr.cell? ⟨b,0,none⟩=some (.slice av l.length cv):=by
         have:=(HB4.out.block b (lt_of_block HS1.out)).trans HS1.out;simp[World.cell?,this]
        have cA:=hide (at_any (.slice av l.length cv) l x.refs[j2] wr (HS2.out.below HB4.out) (by omega));rcases HS3.out.find x.refs[j2] with ⟨hf1,hf2⟩ | ⟨k,hk1,hk2,hf1,hf2⟩
        ·have hlack:lackS S x.path x.refs[j2]=true:=by unfold lackS;rw[decide_eq_false er,hf1];rfl
         have hany:x.refs.any (lackS S x.path)=true:=List.any_eq_true.2 ⟨x.refs[j2],List.getElem_mem _,hlack⟩;rw[hany,if_pos rfl]at hR;subst hR;rw[hf2]at cA;generalize x.refs[j2]=z at c0 hb cA;clear hall hC1 er hf1 hf2 hlack hany
         go_wp2_with fail
         refine cA.out.mono ?_;rintro e w5 ⟨rfl,hb5⟩;go_wp2;go_ret;have hb5':=HB4.out.trans (hb5.mono HB4.out.size);exact ⟨rfl,H.out.below hb5',Wrote.of hblt hb5'⟩
        ·have hall':Hid (∀k (hk:k<x.refs.length),k<j2+1→lackS S x.path x.refs[k]=false):=fun i hi hij=>by
          by_cases e':i=j2
          ·subst e';unfold lackS;rw[decide_eq_false er,hf2];rfl
          ·exact hall.out i hi (by omega)
         rw[hf1]at cA;have hkz:¬ (k:Int)<0:=by omega
         generalize x.refs[j2]=z at c0 hb cA;clear hall hC1 er hf1 hf2
         go_wp2_with fail
         refine cA.out.mono ?_;rintro e w5 ⟨rfl,hb5⟩;go_wp2;go_roundw
         case rel=>exact ⟨j2+1,by omega,by go_num,hide (HB4.out.trans (hb5.mono HB4.out.size)),hall'⟩
         case measure=>simp[intOf];omega
      ·have hany:x.refs.any (lackS S x.path)=false:=by
        rw[List.any_eq_false];intro y hy;obtain ⟨k,hk,rfl⟩:=List.getElem_of_mem hy;rw[hall.out k hk (by omega)];simp
       rw[hany,if_neg (by simp)]at hR;have hltz2:¬ (j2:Int)<x.refs.length:=by omega
       clear hall hany hltz hlt;obtain ⟨i42,hi42,k420,k421,k422⟩:=info_parts Tryz.info42;obtain ⟨i9,hi9,h90,h91,h92⟩:=info_parts Tryz.info9;obtain ⟨hl30,hne,hkinds⟩:=len30 x.nodes HT.out.right;have hnpos:0<x.nodes.length:=List.length_pos_iff.2 hne;obtain ⟨an,cn,hvn,hcn,hmn,_,hcN⟩:=HN.out;subst hvn;obtain ⟨bn,offn,hba,hbn,hNn⟩:=hcN hnpos;subst hba;have HC1:Hid (∀i u,(flat3 x.nodes)[i]?=some u→wr.cell? ((⟨bn,offn,none⟩:Addr).add i)=some u):=hide (NodesAt.cells (hNn.below HB4.out hbn));have hsz4:=HB4.out.size;clear hne hkinds hcN hNn;generalize hM:x.nodes.length=M at *;have hnil2:∀n c,(Value.slice ar x.refs.length cr)=.slice none n c→n=0∧c=0:=fun n c e=>by
        injection e with e1 e2 e3
        have:=hnil' e1;omega
       go_wp2_with (first
         | (at_builtin;refine wpList_append_own _ rfl (.const (.slice none 0 0)) (.tmp 60) 25 rfl wr.heap.size 42 i42 (.agg #[.string ⟨#[]⟩,.int .i64 0,.string ⟨#[]⟩]) 3 40 Tryz.underlying25 hi42 k420 k421 k422 rfl (by decide) (.slice none 0 0) 0 [] rfl (World.ownsRow_nil _ _ _ _) ⟨bn,offn,none⟩ M cn (flat3 x.nodes) rfl (by rw[flat3_length,hM]) HC1.out (flat3_one _) (by unfold maxLen;omega) (by omega) (Nat.le_refl _) ?_;intro v5 w5 hown5 hgrow5 hnil5;rw[Nat.zero_add,List.nil_append]at hown5;obtain ⟨a5,c5,rfl,hc5⟩:=own_sl hown5;have HB5:=hide ((Below.refl wr.heap.size wr).grown hgrow5 (Nat.le_refl _) (fun k hk=>by cases hk));have HO5:=hide hown5;have hsz5:=HB5.out.size;clear hown5 hgrow5 hnil5)
         | (at_builtin;refine wpList_append_strs rfl (.tmp 62) rfl x.refs (.slice ar x.refs.length cr) rfl (HR.out.below (HB4.out.trans (HB5.out.mono hsz4))) hnil2 hl ?_;intro a6 c6 w6 hown6 hb6;have HB6:=hide hb6;have HO6:=hide hown6;have hsz6:=hb6.size;have c6b:w6.cell? ⟨b,0,none⟩=some (.slice av l.length cv):=(cell6 HB4.out HB5.out hb6 HS1.out);have c7b:=cell7 c6b;clear hown6 hb6)
         | (refine wpList_build76 rfl (.tmp 59) (.tmp 61) (.tmp 63) rfl _ _ _ _ _ _ _ rfl rfl rfl ?_))
       have HB6':Hid (Below w1.heap.size w1 w6):=hide (HB4.out.trans ((HB5.out.trans (HB6.out.mono hsz5)).mono hsz4));have HB7:Hid (Below w1.heap.size w1 (w6.alloc (.cells #[.string x.path,.slice a5 M c5,.slice a6 x.refs.length c6] 76))):=hide (HB6'.out.alloc (HB6'.out.size) _);have K7:Hid ((w6.alloc (.cells #[.string x.path,.slice a5 M c5,.slice a6 x.refs.length c6] 76)).heap[w6.heap.size]?=some (.cells #[.string x.path,.slice a5 M c5,.slice a6 x.refs.length c6] 76 (0,0))):=hide (block_new w6 _);have HN7:Hid (SliceN (w6.alloc (.cells #[.string x.path,.slice a5 M c5,.slice a6 x.refs.length c6] 76)) (.slice a5 M c5) x.nodes):=hide (((own_nodes (by rw[hM];exact HO5.out)).1.below HB6.out).below ((Below.refl _ _).alloc (Nat.le_refl _) _));have HS7:Hid (SliceS (w6.alloc (.cells #[.string x.path,.slice a5 M c5,.slice a6 x.refs.length c6] 76)) (.slice a6 x.refs.length c6) x.refs):=hide ((own_strs HO6.out).below ((Below.refl _ _).alloc (Nat.le_refl _) _));have c7:=c7b (.cells #[.string x.path,.slice a5 M c5,.slice a6 x.refs.length c6] 76);have hz7:w6.heap.size≤(w6.alloc (.cells #[.string x.path,.slice a5 M c5,.slice a6 x.refs.length c6] 76)).heap.size:=by rw[World.size_alloc];omega
       clear c7b c6b;generalize w6.alloc (.cells #[.string x.path,.slice a5 M c5,.slice a6 x.refs.length c6] 76)=W7 at *;have cA:=hide (at_any (.slice av l.length cv) l x.path W7 (HS2.out.below HB7.out) (by omega));rcases HS3.out.find x.path with ⟨hf1,hf2⟩ | ⟨k,hk1,hk2,hf1,hf2⟩
       ·unfold putS at hR;rw[hf1]at hR;rw[hf2]at cA;simp only at hR;have FS:=hide hf1;clear hf1 hf2
        by_cases hfull:10≤S.length
        ·rw[if_pos hfull]at hR;subst hR;have hten:l.length=10:=by have:=HLEN.out;omega
         rw[hten]at c7 cA;rw[hten];refine cA.out.mono ?_;rintro e w8 ⟨rfl,hb8⟩;have HB8:=hide (HB7.out.trans (hb8.mono HB7.out.size));have c8:w8.cell? ⟨b,0,none⟩=some (.slice av 10 cv):=(hb8.cell (World.block_lt_of_cell? _ _ c7)).trans c7;go_wp2;go_ret;exact ⟨rfl,H.out.below HB8.out,Wrote.of hblt HB8.out⟩
        ·rw[if_neg hfull]at hR;subst hR;have hlt10:l.length<10:=by have:=HLEN.out;omega
         have hnez:((l.length:Int) == 10)=false:=beq_eq_false_iff_ne.2 (by omega);have hblk7:W7.heap[b]?=some (.cells #[.slice av l.length cv] 48 (0,0)):=(HB7.out.block b (lt_of_block HS1.out)).trans HS1.out;refine cA.out.mono ?_;rintro e w8 ⟨rfl,hb8⟩;have HB8:=hide (HB7.out.trans (hb8.mono HB7.out.size));have c8:=cellB hb8 c7;have hz8:=hb8.size;have HBK:=hide ((hb8.block b (lt_of_block hblk7)).trans hblk7);have HSE:=hide (HS2.out.below HB8.out);have HRE:=hide (HS3.out.mono (fun v ns h=>h.below HB8.out) (fun v ss h=>h.below HB8.out));have HX:Hid (REAt w8 ⟨x.path,a5,M,c5,a6,x.refs.length,c6⟩ x):=hide ⟨rfl,HN7.out.below hb8,HS7.out.below hb8⟩;have q80:w8.cell? ⟨w6.heap.size,0,none⟩=some (.string x.path):=cellB hb8 (by simp[World.cell?,K7.out]);have q81:w8.cell? ⟨w6.heap.size,1,none⟩=some (.slice a5 M c5):=cellB hb8 (by simp[World.cell?,K7.out]);have q82:w8.cell? ⟨w6.heap.size,2,none⟩=some (.slice a6 x.refs.length c6):=cellB hb8 (by simp[World.cell?,K7.out]);have HNIL:Hid (l=[]→Value.slice av l.length cv=.slice none 0 0):=hide fun e0=>HS4.out (List.eq_nil_of_length_eq_zero (by rw[← HLEN.out,e0];rfl))
         have cE:Hid (∀V:World,Below w8.heap.size w8 V→Calls Tryz.prog 41 #[.slice av l.length cv,.agg #[.string x.path,.slice a5 M c5,.slice a6 x.refs.length c6]] V fun e w'=>∃a' n' c',e=.returned (.slice a' n' c')∧(w'.ownsRow w8.heap.size 76 3 (.slice a' n' c') (insR l ⟨x.path,a5,M,c5,a6,x.refs.length,c6⟩).length (flatR (insR l ⟨x.path,a5,M,c5,a6,x.refs.length,c6⟩))∧Below w8.heap.size w8 w')∧w'.heap[b]?=some (.cells #[.slice av l.length cv] 48 (0,0))):=hide fun V hV=>by
          refine (rput_any (x:=⟨x.path,a5,M,c5,a6,x.refs.length,c6⟩) (HSE.out.below hV) hlt10 HNIL.out).mono ?_;rintro e w' ⟨v,rfl,hv,hb⟩;have hb':=hV.trans (hb.mono hV.size);have hv':=own_base hv hV.size;obtain ⟨a',c',rfl,_⟩:=own_sl hv';exact ⟨a',_,c',rfl,⟨hv',hb'⟩,(hb'.block b (lt_of_block HBK.out)).trans HBK.out⟩
         clear hb8 hblk7 cA c7;go_wp2;refine wp_mono (reg20_25 b w6.heap.size l.length cv av x.path a5 a6 M c5 x.refs.length c6 w8 c8 q80 q81 q82 (fun v w'=>w'.ownsRow w8.heap.size 76 3 v (insR l ⟨x.path,a5,M,c5,a6,x.refs.length,c6⟩).length (flatR (insR l ⟨x.path,a5,M,c5,a6,x.refs.length,c6⟩))∧Below w8.heap.size w8 w') cE.out _ _ _ _ _ _ _ _ _ _ _ _ _ _ _ _ _ _ _ _ _ _ _ _ _ _ _ _ _ _ _ _ _ _ _ _ _ _ _ _ _ _ _ _ _ _ _ _ _ _ _ _ _ _ _ _ _ _ _ _ _ _ _ _ _ _ _ _ _ _ _ _ _ _ _ _ _ _ _ _ _ _ _ _ _ _ _ _ _ _ _ _ _ _ _ _) (reg_then ?_);rintro a w9 ⟨⟨v89,v90,v91,v92,v93,v94,v95,v96,v97,rfl⟩,v,w10,⟨hO10,hb10⟩,rfl,hk10⟩;have HFIN:=hide (RStF.put HRE.out HX.out FS.out hO10 hb10 hk10 HB8.out hblt HF.out HS6.out ⟨(own_newF HO5.out (fun k hk=>HF.out k (Nat.le_trans HB4.out.size hk))).mono (fun k hk=>⟨hk.1,by have:=hk.2;omega⟩),(own_newF HO6.out (fun k hk=>HF.out k (Nat.le_trans (Nat.le_trans HB4.out.size hsz5) hk))).mono (fun k hk=>⟨hk.1,by have:=hk.2;omega⟩)⟩);clear hO10 hb10 hk10 q80 q81 q82 c8 cE;generalize w10.setCell ⟨b,0,none⟩ v=W10 at HFIN ⊢;go_wp2;go_ret;exact ⟨rfl,HFIN.out⟩
       ·unfold putS at hR;rw[hf2]at hR;rw[hf1]at cA;simp only at hR;obtain ⟨_,hy1,hy2⟩:=HS3.out.get k hk1 hk2;have HY1:=hide (hy1.below HB7.out);have HY2:=hide (hy2.below HB7.out);have HTS:=hide (HG.out.tree S[k] (List.getElem_mem _));have HLS:=hide (HG.out.refs S[k] (List.getElem_mem _));obtain ⟨av',cv',ev,_,hcE⟩:=HS2.out;obtain ⟨be,offe,hbe,hbl,hE⟩:=hcE (by omega);injection ev with ev1 _ _
        subst ev1;subst hbe;obtain ⟨e0,e1,e2⟩:=hE k hk1;have e0':=(HB7.out.cell (p:=⟨be,offe+k*3,none⟩) hbl).trans e0;have e1':=(HB7.out.cell (p:=⟨be,offe+k*3+1,none⟩) hbl).trans e1;have e2':=(HB7.out.cell (p:=⟨be,offe+k*3+2,none⟩) hbl).trans e2;have q0:W7.cell? ⟨w6.heap.size,0,none⟩=some (.string x.path):=by simp[World.cell?,K7.out]
        have q1:W7.cell? ⟨w6.heap.size,1,none⟩=some (.slice a5 M c5):=by simp[World.cell?,K7.out]
        have q2:W7.cell? ⟨w6.heap.size,2,none⟩=some (.slice a6 x.refs.length c6):=by simp[World.cell?,K7.out]
        obtain ⟨D,hD⟩:∃D,(decide (packB S[k].nodes=packB x.nodes) && eqL S[k].refs x.refs)=D:=⟨_,rfl⟩;have cE:Hid (∀V:World,Below W7.heap.size W7 V→Calls Tryz.prog 40 #[.agg #[.string l[k].path,l[k].tree,l[k].refs],.agg #[.string x.path,.slice a5 M c5,.slice a6 x.refs.length c6]] V fun e w'=>e=.returned (.bool D)∧Below V.heap.size V w'):=hide fun V hV=>by
         rw[← hD];exact rsame_any l[k] ⟨x.path,a5,M,c5,a6,x.refs.length,c6⟩ S[k].nodes x.nodes S[k].refs x.refs V (HY1.out.below hV) (HN7.out.below hV) HTS.out HT.out (HY2.out.below hV) (HS7.out.below hV) (by have:=HLS.out;omega) (by omega)
        rw[hD]at hR;clear hD HTS HLS hE hcE e0 e1 e2 hf1 hf2 hy1 hy2 HY1 HY2;generalize l[k]=y at *;obtain ⟨yp,ta,tn,tc,ra,rn,rc⟩:=y;unfold REn.tree REn.refs at *;simp only at e0' e1' e2' cE;refine cA.out.mono ?_;rintro e w8 ⟨rfl,hb8⟩;have F8:Hid (∀a u,W7.cell? a=some u→w8.cell? a=some u):=hide fun a u h=>(hb8.cell (World.block_lt_of_cell? _ _ h)).trans h
        have c8:=F8.out _ _ c7;have e80:=F8.out _ _ e0';have e81:=F8.out _ _ e1';have e82:=F8.out _ _ e2';have q80:=F8.out _ _ q0;have q81:=F8.out _ _ q1;have q82:=F8.out _ _ q2;have HB8:=hide hb8;have HC40:Hid (∀V:World,Below w8.heap.size w8 V→Calls Tryz.prog 40 #[.agg #[.string yp,.slice ta tn tc,.slice ra rn rc],.agg #[.string x.path,.slice a5 M c5,.slice a6 x.refs.length c6]] V fun e w'=>e=.returned (.bool D)∧Below V.heap.size V w'):=hide fun V hV=>cE.out V (HB8.out.trans (hV.mono HB8.out.size))
        have hkz:(0:Int)≤(k:Int):=by omega
        have HB9:=hide (HB7.out.trans (HB8.out.mono HB7.out.size));clear hb8 cA F8 c7 e0' e1' e2' q0 q1 q2 cE;go_wp2;refine wp_mono (reg20_20 b w6.heap.size be offe l.length cv k yp x.path ta ra a5 a6 tn tc rn rc M c5 x.refs.length c6 D w8 hk1 c8 e80 e81 e82 q80 q81 q82 HC40.out _ _ _ _ _ _ _ _ _ _ _ _ _ _ _ _ _ _ _ _ _ _ _ _ _ _ _ _ _ _ _ _ _ _ _ _ _ _ _ _ _ _ _ _ _ _ _ _ _ _ _ _ _ _ _ _ _ _ _ _ _ _ _ _ _ _ _ _ _ _ _ _ _ _ _ _ _ _ _ _ _ _ _ _ _ _ _ _ _ _ _ _ _ _ _) (reg_then ?_);rintro a w9 ⟨⟨v73,v74,v75,v76,v77,v78,v79,v80,v81,rfl⟩,hb9⟩;have HB10:=hide (HB9.out.trans (hb9.mono HB9.out.size));clear hb9 c8 e80 e81 e82 q80 q81 q82 HC40;cases D with
        | true=>
         rw[if_pos rfl]at hR;subst hR;go_wp2;go_ret;exact ⟨rfl,H.out.below HB10.out,Wrote.of hblt HB10.out⟩
        | false=>
         rw[if_neg (by simp)]at hR;subst hR;go_wp2;go_ret;exact ⟨rfl,H.out.below HB10.out,Wrote.of hblt HB10.out⟩
end Go.Proofs.YticfcjmlphhpgaaGreatDoor
