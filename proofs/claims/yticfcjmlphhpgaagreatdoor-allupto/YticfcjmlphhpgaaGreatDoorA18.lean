import Derived.Test.YticfcjmlphhpgaaGreatDoorA02
import Derived.Test.YticfcjmlphhpgaaGreatDoorA07
import Derived.Test.YticfcjmlphhpgaaGreatDoorA17
import Derived.Laws.AppendOwnNone
set_option maxRecDepth 20000
set_option maxHeartbeats 4000000
namespace Go.Proofs.YticfcjmlphhpgaaGreatDoor
open Go.RowKit
theorem bulk_append:∀a b:List Nd,bulk (a++b)=bulk a+bulk b
 | [],b=>by simp[bulk]
 | n :: r,b=>by simp only[List.cons_append,bulk,bulk_append r b];omega
theorem refN_bulk (E:List Nd→Bs) (x:Nd) (F:List Nd) (hE:(E F).length≤bulk F):(refN E x F).length+200+x.path.size≤bulk (x :: F):=by
 have h1:(bytesOf [wOpen,wType]).length≤100:=by have h1:=bytesOf_cons wOpen [wType];have h2:=bytesOf_cons wType [];have a:wOpen.size=1:=rfl;have b:wType.size=4:=rfl;rw[bytesOf_nil]at h2;omega
 have h2:=close_le;have h3:(bytesOf [wFileM,wData,x.data]).length≤200+x.data.size:=by have h1:=bytesOf_cons wFileM [wData,x.data];have h2:=data_le x.data;have a:wFileM.size=4:=rfl;omega
 have h4:(bytesOf [wFileM,wExec,wNone,wData,x.data]).length≤200+x.data.size:=by have h1:=bytesOf_cons wFileM [wExec,wNone,wData,x.data];have h3:=bytesOf_cons wExec [wNone,wData,x.data];have h4:=bytesOf_cons wNone [wData,x.data];have h2:=data_le x.data;have a:wFileM.size=4:=rfl;have b:wExec.size=4:=rfl;have c:wNone.size=0:=rfl;omega
 have h5:(bytesOf [wLinkM,wTo,x.data]).length≤200+x.data.size:=by have h1:=bytesOf_cons wLinkM [wTo,x.data];have h2:=to_le x.data;have a:wLinkM.size=4:=rfl;omega
 have h6:(bytesOf [wDirM]).length≤100:=by have h1:=bytesOf_cons wDirM [];have a:wDirM.size=3:=rfl;rw[bytesOf_nil]at h1;omega
 simp only[refN,List.length_append,bulk]
 split
 ·omega
 ·split
  ·omega
  ·split
   ·omega
   ·simp only[List.length_append];omega
theorem refE_bulk:∀(f:Nat) (F:List Nd),(refE f F).length≤bulk F
 | 0,F=>by simp[refE]
 | f+1,[]=>by simp[refE]
 | f+1,c :: F=>by
  have h1:=refN_bulk (refE f) c (F.takeWhile (under c)) (refE_bulk f _);have h2:=refE_bulk f (F.dropWhile (under c));have h3:=entry_le c.path;have h4:=close_le;have h5:bulk F=bulk (F.takeWhile (under c))+bulk (F.dropWhile (under c)):=by rw[← bulk_append,← split_while c F]
  simp only[refE,List.length_append];simp only[bulk]at h1 ⊢;omega
theorem NodesAt.drop {w:World} {b off:Nat} {ns:List Nd} (h:NodesAt w b off ns) (k:Nat):NodesAt w b (off+k*3) (ns.drop k):=fun j hj=>by
 have hj':k+j<ns.length:=by rw[List.length_drop]at hj;omega
 have:=h (k+j) hj';rw[List.getElem_drop];rw[show off+(k+j)*3=off+k*3+j*3 by omega]at this;exact this
theorem NodesAt.pre {w:World} {b off:Nat} {ns ms:List Nd} (h:NodesAt w b off (ns++ms)):NodesAt w b off ns:=fun j hj=>by
 have:=h j (by rw[List.length_append];omega);rw[List.getElem_append_left hj]at this;exact this
theorem ref_dir (f:Nat) (IH:∀g,g<f→PRef g) (b off cap:Nat) (path data:ByteArray) (F:List Nd) (w:World) (hbl:b<w.heap.size) (hN:NodesAt w b off (⟨path,4,data⟩ :: F)) (hcap:F.length+1≤cap) (hmax:cap≤maxLen) (hsm:Small (⟨path,4,data⟩ :: F)) (hkd:Kinds F)
  (hf:F.length≤f) (hbk:bulk (⟨path,4,data⟩ :: F)≤1000000000) :
  Calls Tryz.prog 78 #[.slice (some ⟨b,off,none⟩) (F.length+1) cap] w fun e w'=>e=.returned (.string (strB (refN (refE f) ⟨path,4,data⟩ F)))∧Below w.heap.size w w':=by
 obtain ⟨c0,c1,c2⟩:=hN 0 (by simp);simp only[Nat.zero_mul,Nat.add_zero,List.getElem_cons_zero]at c0 c1 c2;have hl:=hsm.1;rw[List.length_cons]at hl;unfold maxLen at hmax;have hz:(0:Int)<(F.length:Int)+1:=by omega
 obtain ⟨X,hX⟩:∃X,strB (refN (refE f) ⟨path,4,data⟩ F)=X:=⟨_,rfl⟩;rw[hX];have hXd:X.data.toList=bytesOf [wOpen,wType]++(bytesOf [wDirM]++refE f F)++bytesOf [wClose]:=by rw[← hX,strB_data];simp[refN]
 have HX:=hide hXd;have hbF:bulk F≤1000000000:=by rw[bulk]at hbk;omega
 have hl1:(bytesOf [wOpen,wType]).length≤100:=by have h1:=bytesOf_cons wOpen [wType];have h2:=bytesOf_cons wType [];have a:wOpen.size=1:=rfl;have b:wType.size=4:=rfl;rw[bytesOf_nil]at h2;omega
 have z1:=size_of_dataV (encsB_data [wOpen,wType]);have hs1:(encsB [wOpen,wType]).size≤100:=by omega
 have hbx:∀W,Below (w.heap.size+1) (w.alloc (.cells #[.string path,.int .i64 4,.string data] 42)) W→W.heap[w.heap.size]?=some (.cells #[.string path,.int .i64 4,.string data] 42):=fun W h=>by
  rw[h.block _ (by omega)];exact block_new w _
 have HBX:=hide hbx;have HN:=hide hN;have HS:=hide hsm;have HK:=hide hkd;have HI:=hide IH;clear hX hXd hsm hN hbx z1 hkd IH hbk;go_enter Tryz.func78,Tryz.ntmps78
 go_wp2_with fail
 refine (strs_new [wOpen,wType] (w.alloc (.cells #[.string path,.int .i64 4,.string data] 42)) (by omega) (by simp) _ rfl _ rfl _ (by simp)).mono ?_;rintro e w2 ⟨rfl,hb2⟩;have hb2':Below (w.heap.size+1) (w.alloc (.cells #[.string path,.int .i64 4,.string data] 42)) w2:=by simpa using hb2
 have hsz2:w.heap.size+1≤w2.heap.size:=by have:=hb2'.size;simpa using this
 obtain ⟨x0,x1,x2⟩:=box_cells (HBX.out w2 hb2');generalize hA:encsB [wOpen,wType]=A at hs1;have HA:Hid (A.data.toList=bytesOf [wOpen,wType]):=by show _=_;rw[← hA,encsB_data]
 clear hA
 go_wp2_with fail
 refine (Str_any ⟨#[100,105,114]⟩ w2 (by decide)).mono ?_;rintro e w3 ⟨rfl,hb3⟩;have hsz3:=hb3.size;have hC:(encB ⟨#[100,105,114]⟩).data.toList=bytesOf [wDirM]:=by decide
 have hCs:(encB ⟨#[100,105,114]⟩).size=16:=by decide
 generalize encB ⟨#[100,105,114]⟩=B at hC hCs;have HB:=hide hC;clear hC;have hbw3:Below w.heap.size w w3:=(((Below.refl _ _).alloc (Nat.le_refl _) _).trans (hb2'.mono (by omega))).trans (hb3.mono (by omega));have hAB:A.size+B.size≤9223372036854775807:=by omega
 have hs2:(A++B).size≤200:=by rw[size_append];omega
 have HAB:Hid ((A++B).data.toList=bytesOf [wOpen,wType]++bytesOf [wDirM]):=by show _=_;rw[data_appendV,HA.out,HB.out]
 clear hb2 hb2' hb3 HBX hCs;go_wp2
 go_loopw [4,5,6,7,8] (fun s i _ _ _ w1=>∃(kk p g:Nat) (t:ByteArray) (E:Bs),p+1≤kk∧kk≤p+1∧p≤F.length∧i=.int .i64 (kk:Int)∧(F.drop p).length≤g∧g≤f∧s=.string t∧Hid (t.data.toList=bytesOf [wOpen,wType]++(bytesOf [wDirM]++E))∧Hid (refE f F=E++refE g (F.drop p))∧Below w.heap.size w w1) (fun _ i _ _ _ _=>F.length+1 - (intOf i).toNat)
 case atStart=>exact ⟨1,0,f,A++B,[],by omega,by omega,by omega,by go_num,by simpa using hf,Nat.le_refl _,rfl,by show _=_;rw[HAB.out];simp,by show _=_;simp,hbw3⟩
 case round=>
  obtain ⟨kk,p,g,t,E,hkk1,hkk2,hp,rfl,hpg,hgf,rfl,HT,HE,hbel⟩:=hrel;have hszr:=hbel.size;have hEl:E.length≤bulk F:=by
   have h1:=refE_bulk f F;have h2:=congrArg List.length HE.out;rw[List.length_append]at h2;omega
  have htz:t.size≤1000000400:=by
   have h1:=size_of_dataV HT.out;have h6:(bytesOf [wDirM]).length≤100:=by have h1:=bytesOf_cons wDirM [];have a:wDirM.size=3:=rfl;rw[bytesOf_nil]at h1;omega
   simp only[List.length_append]at h1;omega
  by_cases hlt:p<F.length
  ·obtain ⟨g,rfl⟩:∃g',g=g'+1:=⟨g - 1,by rw[List.length_drop]at hpg;omega⟩;have hNr:=HN.out.below hbel hbl;obtain ⟨F1,hF1⟩:∃F1,F.drop (p+1)=F1:=⟨_,rfl⟩;obtain ⟨c,hc⟩:∃c,F[p]=c:=⟨_,rfl⟩;have hdr:F.drop p=c :: F1:=by rw[List.drop_eq_getElem_cons hlt,hc,hF1]
   have hF1l:F1.length+p+1=F.length:=by rw[← hF1,List.length_drop];omega
   have hsp:=split_while c F1;have hmem:∀y∈F1.takeWhile (under c),under c y=true:=fun y hy=>mem_tw hy
   have hhd:=drop_head c F1;generalize hsub:F1.takeWhile (under c)=sub at hsp hmem;generalize hrst:F1.dropWhile (under c)=rst at hsp hhd;have hlen:sub.length+rst.length=F1.length:=by rw[hsp];simp
   have hcs:=HS.out.2 c (List.mem_cons_of_mem _ (by rw[← hc];exact List.getElem_mem hlt));have hcm:c∈F:=by rw[← hc];exact List.getElem_mem hlt
   obtain ⟨k0,_,_⟩:=hNr (p+1) (by simp;omega);simp only[List.getElem_cons_succ,hc]at k0;rw[show p+1=kk by omega]at k0;have hyes:Hid (∀u,p+2≤u→u<p+2+sub.length→∃y,y∈F∧wr.cell? ⟨b,off+u*3,none⟩=some (.string y.path)∧belL (np y) (np c)=true):=fun u h1 h2=>by
    have hu:u<(⟨path,4,data⟩ :: F:List Nd).length:=by simp;omega
    obtain ⟨v,rfl⟩:∃v,u=v+1:=⟨u - 1,by omega⟩;have hv:v<F.length:=by omega
    have hq:v - (p+1)<sub.length:=by omega
    have e1:F[v]?=some (sub[v - (p+1)]):=by
     have:F[v]?=F1[v - (p+1)]?:=by rw[← hF1,List.getElem?_drop];congr 1;omega
     rw[this,hsp,List.getElem?_append_left hq,List.getElem?_eq_getElem hq]
    have e2:F[v]=sub[v - (p+1)]:=by rw[List.getElem?_eq_getElem hv]at e1;exact Option.some.inj e1
    refine ⟨F[v],List.getElem_mem hv,?_,?_⟩
    ·have:=(hNr (v+1) hu).1;simpa using this
    ·rw[e2];exact hmem _ (List.getElem_mem hq)
   have hno:Hid (p+2+sub.length<F.length+1→∃y,y∈F∧wr.cell? ⟨b,off+(p+2+sub.length)*3,none⟩=some (.string y.path)∧belL (np y) (np c)=false):=fun h1=>by
    have hu:p+2+sub.length<(⟨path,4,data⟩ :: F:List Nd).length:=by simp;omega
    have hv:p+1+sub.length<F.length:=by omega
    cases hr:rst with
    | nil=>rw[hr]at hlen;simp at hlen;omega
    | cons z R'=>
     have e1:F[p+1+sub.length]?=some z:=by
      have:F[p+1+sub.length]?=F1[sub.length]?:=by rw[← hF1,List.getElem?_drop]
      rw[this,hsp,List.getElem?_append_right (Nat.le_refl _),Nat.sub_self,hr];rfl
     have e2:F[p+1+sub.length]=z:=by rw[List.getElem?_eq_getElem hv]at e1;exact Option.some.inj e1
     refine ⟨z,by rw[← e2];exact List.getElem_mem hv,?_,hhd z R' hr⟩;have:=(hNr (p+1+sub.length+1) (by simp;omega)).1;simp only[List.getElem_cons_succ,e2]at this;rw[show p+1+sub.length+1=p+2+sub.length by omega]at this;exact this
   have hsF:∀y∈F,y.path.size≤1000000:=fun y hy=>(HS.out.2 y (List.mem_cons_of_mem _ hy)).1
   have HSF:=hide hsF;have hsl:sub.length≤F1.length:=by omega
   obtain ⟨M,hM⟩:∃M,sub.length=M:=⟨_,rfl⟩;rw[hM]at hyes hno hsl;have HM:=hide hM;have hrest:F.drop (p+1+M)=rst:=by
    have:F.drop (p+1+M)=F1.drop M:=by rw[← hF1,List.drop_drop]
    rw[this,hsp,List.drop_append_of_le_length (by omega),List.drop_of_length_le (by omega),List.nil_append]
   have hRE:refE f F=E++(bytesOf [wEntry,wOpen,wName,nam c.path,wNode]++refN (refE g) c sub++bytesOf [wClose])++refE g rst:=by
    rw[HE.out,hdr,refE,hsub,hrst];simp[List.append_assoc]
   have hdk:∀W,Below w.heap.size w W→NodesAt W b (off+kk*3) (c :: sub):=fun W hW=>by
    have h1:=(HN.out.below hW hbl).drop kk;rw[show kk=p+1 by omega,List.drop_succ_cons,hdr,hsp]at h1;rw[show kk=p+1 by omega];exact h1.pre (ns:=c :: sub) (ms:=rst)
   have hbc:bulk (c :: sub)≤bulk F:=by
    have h1:bulk F=bulk (F.take p)+bulk (F.drop p):=by rw[← bulk_append,List.take_append_drop]
    rw[hdr,hsp]at h1;have h2:=bulk_append (c :: sub) rst;rw[List.cons_append]at h2;omega
   have hsmc:Small (c :: sub):=by
    have hsuf:(c :: F1) <:+ F:=⟨F.take p,by rw[← hdr,List.take_append_drop]⟩;have h1:=((HS.out.tail).suffix hsuf);rw[hsp]at h1;refine ⟨by have:=h1.1;simp at this ⊢;omega,fun n hn=>h1.2 n ?_⟩;rcases List.mem_cons.1 hn with rfl | hn
    ·exact List.mem_cons_self
    ·exact List.mem_cons_of_mem _ (List.mem_append_left _ hn)
   have hkc:Kinds (c :: sub):=fun n hn=>by
    rcases List.mem_cons.1 hn with rfl | hn
    ·exact HK.out n hcm
    ·exact HK.out n (List.mem_of_mem_drop (by rw[hF1,hsp];exact List.mem_append_left _ hn))
   have hsM:sub.length=M:=hM;obtain ⟨S,hS⟩:∃S,encsB [wEntry,wOpen,wName,nam c.path,wNode]=S:=⟨_,rfl⟩;have hSd:S.data.toList=bytesOf [wEntry,wOpen,wName,nam c.path,wNode]:=by rw[← hS,encsB_data]
   have hSs:S.size≤1000200:=by rw[size_of_dataV hSd];have:=entry_le c.path;omega
   have hSb:(bytesOf [wEntry,wOpen,wName,nam c.path,wNode]).length≤1000000000000:=by have:=entry_le c.path;omega
   obtain ⟨P,hP⟩:∃P,strB (refN (refE g) c sub)=P:=⟨_,rfl⟩;have hPd:P.data.toList=refN (refE g) c sub:=by rw[← hP,strB_data]
   have hPs:P.size≤1000000000:=by rw[size_of_dataV hPd];have:=refN_bulk (refE g) c sub (refE_bulk g sub);omega
   have hCd:(encB ⟨#[41]⟩).data.toList=bytesOf [wClose]:=by decide
   have hCs:(encB ⟨#[41]⟩).size=16:=by decide
   have cS:∀(q:Nat) (W:World),W.heap[q]?=some (.cells #[.string wEntry,.string wOpen,.string wName,.string (nam c.path),.string wNode] 9 (0,0))→Calls Tryz.prog 51 #[.slice (some ⟨q,0,none⟩) 5 5] W fun e w'=>e=.returned (.string S)∧Below W.heap.size W w':=fun q W h=>by
    rw[← hS];exact strs_any q [wEntry,wOpen,wName,nam c.path,wNode] W h hSb (by simp)
   have cP:∀(L:Nat) (W:World),L=M+1→Below w.heap.size w W→Calls Tryz.prog 78 #[.slice (some ⟨b,off+kk*3,none⟩) L (cap - kk)] W fun e w'=>e=.returned (.string P)∧Below W.heap.size W w':=fun L W hL hW=>by
    rw[← hP,hL,← hsM];exact HI.out g (by omega) b (off+kk*3) (cap - kk) c sub W (by have:=hW.size;omega) (hdk W hW) (by simp;omega) (by unfold maxLen;omega) hsmc (by rw[hdr,List.length_cons]at hpg;omega) (by omega) hkc
   have CS:=hide cS;have CP:=hide cP;have HRE:=hide hRE;have HREST:=hide hrest;have HSd:=hide hSd;have HPd:=hide hPd;have HCd:=hide hCd;have hrl:(F.drop (p+1+M)).length≤g:=by rw[hrest];rw[hdr,List.length_cons]at hpg;omega
   clear hmem hhd hM hsF hrest hRE hdk hbc hsmc hkc hsM hS hSd hSb hP hPd hCd cS cP hdr hsp hsub hrst;obtain ⟨wo,rfl⟩:∃wo:World,wo=wr:=⟨_,rfl⟩;go_wp2
   go_loopw [6] (fun o w1=>∃u n:Nat,p+2≤u∧u≤p+2+M∧o=.int .i64 (u:Int)∧Hid (w1=wo.drewN n)) (fun o _=>F.length+10 - (intOf o).toNat)
   case atStart=>exact ⟨p+2,0,by omega,by omega,by rw[show ((p+2:Nat):Int)=(kk:Int)+1 by omega],rfl⟩
   case round=>
    obtain ⟨u,n,hu1,hu2,rfl,HWn⟩:=hrel;have hcl:∀a,wr.cell? a=wo.cell? a:=fun a=>by rw[HWn.out];simp
    have k0':=k0;rw[← hcl]at k0'
    by_cases huM:u<p+2+M
    ·obtain ⟨y,hym,hyc,hyb⟩:=hyes.out u hu1 huM;rw[← hcl]at hyc;clear hcl;have huz:(u:Int)<(F.length:Int)+1:=by omega
     have hkz:(kk:Int)<(F.length:Int)+1:=by omega
     have hyb':belowL y.path.data.toList c.path.data.toList=true:=hyb;have cB:∀W,Calls Tryz.prog 97 #[.string y.path,.string c.path] W fun e w'=>e=.returned (.bool true)∧w'=W:=fun W=>by rw[← hyb'];exact below_any _ _ W (by have:=HSF.out y hym;omega) (by omega)
     have CB:=hide cB;clear cB hyb hyb';go_wp2
     go_quiet ((go_at_call 97;exact Calls.quiet_of_same (CB.out _)))
     go_wp2;go_roundw
     case rel=>exact ⟨u+1,n+nq,by omega,by omega,by go_num,by show _=_;rw[HWn.out,World.drewN_drewN]⟩
     case measure=>simp[intOf];omega
    ·have hue:u=p+2+M:=by omega
     have hkz:(kk:Int)<(F.length:Int)+1:=by omega
     have hst:(p+2+M<F.length+1∧∃y,y∈F∧wr.cell? ⟨b,off+u*3,none⟩=some (.string y.path)∧belL (np y) (np c)=false)∨¬ p+2+M<F.length+1:=by
      by_cases hin:p+2+M<F.length+1
      ·left
       obtain ⟨y,h1,h2,h3⟩:=hno.out hin;exact ⟨hin,y,h1,by rw[hcl,hue];exact h2,h3⟩
      ·exact .inr hin
     have hu3:p+2+M≤u:=by omega
     have hck:¬ cap=kk:=by omega
     have hcpz:(u:Int)≤cap:=by omega
     have hkuz:(kk:Int)≤u:=by omega
     clear hcl hue huM;rcases hst with ⟨hin,y,hym,hyc,hyb⟩ | hin
     ·have huz:(u:Int)<(F.length:Int)+1:=by omega
      have hyb':belowL y.path.data.toList c.path.data.toList=false:=hyb;have cB:∀W,Calls Tryz.prog 97 #[.string y.path,.string c.path] W fun e w'=>e=.returned (.bool false)∧w'=W:=fun W=>by rw[← hyb'];exact below_any _ _ W (by have:=HSF.out y hym;omega) (by omega)
      have CB:=hide cB;clear cB hyb hyb';go_wp2
      go_quiet ((go_at_call 97;exact Calls.quiet_of_same (CB.out _)))
      go_wp2_with fail
      refine (rsplit_any c.path _ (by omega)).mono ?_;rintro e w5 ⟨rfl,n5,rfl⟩;have hW5:Below w.heap.size w ((wr.drewN nq).drewN n5):=by rw[HWn.out];exact below_drewN (below_drewN (below_drewN hbel _) _) _
      generalize (wr.drewN nq).drewN n5=W5 at hW5 ⊢;have hs5:=hW5.size;have hlu:Hid (u - kk=M+1):=by show _=_;omega
      have q1:S.size+P.size≤9223372036854775807:=by omega
      have q2:S.size+P.size+(encB ⟨#[41]⟩).size≤9223372036854775807:=by omega
      have q3:t.size+(S.size+P.size+(encB ⟨#[41]⟩).size)≤9223372036854775807:=by omega
      have q4:(S++P).size+(encB ⟨#[41]⟩).size≤9223372036854775807:=by rw[size_append];omega
      have q5:t.size+(S++P++encB ⟨#[41]⟩).size≤9223372036854775807:=by rw[size_append,size_append];omega
      clear hCs;go_wp2
      go_region_with (first
       | (go_at_call 51;refine (CS.out W5.heap.size _ ?_).mono ?_;exact block_new W5 _;rintro e wA ⟨rfl,hbA⟩;have hbwA:Below w.heap.size w wA:=((hW5.alloc hs5 _).drew).trans (hbA.mono (by simp;omega)))
       | (go_at_call 78;refine (CP.out _ _ hlu.out hbwA).mono ?_;rintro e wB ⟨rfl,hbB⟩;have hbwB:Below w.heap.size w wB:=hbwA.trans (hbB.mono hbwA.size))
       | (go_at_call 49;refine (Str_any ⟨#[41]⟩ _ (by decide)).mono ?_;rintro e wC ⟨rfl,hbC⟩;have hbwC:Below w.heap.size w wC:=hbwB.trans (hbC.mono hbwB.size)))
      all_goals go_wp2
      all_goals
       go_roundw
       case rel=>
        refine ⟨u,p+1+M,g,t++(S++P++encB ⟨#[41]⟩),E++(bytesOf [wEntry,wOpen,wName,nam c.path,wNode]++refN (refE g) c sub++bytesOf [wClose]),by omega,by omega,by omega,rfl,hrl,by omega,rfl,?_,?_,hbwC⟩
        ·show _=_;rw[data_appendV,HT.out,data_appendV,data_appendV,HSd.out,HPd.out,HCd.out];simp only[List.append_assoc]
        ·show _=_;rw[HREST.out];exact HRE.out
       case measure=>simp[intOf];omega
     ·have huz:¬ (u:Int)<(F.length:Int)+1:=by omega
      have huzb:decide ((u:Int)<(F.length:Int)+1)=false:=decide_eq_false huz;go_wp2
      go_quiet (fail)
      go_wp2_with fail
      refine (rsplit_any c.path _ (by omega)).mono ?_;rintro e w5 ⟨rfl,n5,rfl⟩;have hW5:Below w.heap.size w ((wr.drewN nq).drewN n5):=by rw[HWn.out];exact below_drewN (below_drewN (below_drewN hbel _) _) _
      generalize (wr.drewN nq).drewN n5=W5 at hW5 ⊢;have hs5:=hW5.size;have hlu:Hid (u - kk=M+1):=by show _=_;omega
      have q1:S.size+P.size≤9223372036854775807:=by omega
      have q2:S.size+P.size+(encB ⟨#[41]⟩).size≤9223372036854775807:=by omega
      have q3:t.size+(S.size+P.size+(encB ⟨#[41]⟩).size)≤9223372036854775807:=by omega
      have q4:(S++P).size+(encB ⟨#[41]⟩).size≤9223372036854775807:=by rw[size_append];omega
      have q5:t.size+(S++P++encB ⟨#[41]⟩).size≤9223372036854775807:=by rw[size_append,size_append];omega
      clear hCs;go_wp2
      go_region_with (first
       | (go_at_call 51;refine (CS.out W5.heap.size _ ?_).mono ?_;exact block_new W5 _;rintro e wA ⟨rfl,hbA⟩;have hbwA:Below w.heap.size w wA:=((hW5.alloc hs5 _).drew).trans (hbA.mono (by simp;omega)))
       | (go_at_call 78;refine (CP.out _ _ hlu.out hbwA).mono ?_;rintro e wB ⟨rfl,hbB⟩;have hbwB:Below w.heap.size w wB:=hbwA.trans (hbB.mono hbwA.size))
       | (go_at_call 49;refine (Str_any ⟨#[41]⟩ _ (by decide)).mono ?_;rintro e wC ⟨rfl,hbC⟩;have hbwC:Below w.heap.size w wC:=hbwB.trans (hbC.mono hbwB.size)))
      all_goals go_wp2
      all_goals
       go_roundw
       case rel=>
        refine ⟨u,p+1+M,g,t++(S++P++encB ⟨#[41]⟩),E++(bytesOf [wEntry,wOpen,wName,nam c.path,wNode]++refN (refE g) c sub++bytesOf [wClose]),by omega,by omega,by omega,rfl,hrl,by omega,rfl,?_,?_,hbwC⟩
        ·show _=_;rw[data_appendV,HT.out,data_appendV,data_appendV,HSd.out,HPd.out,HCd.out];simp only[List.append_assoc]
        ·show _=_;rw[HREST.out];exact HRE.out
       case measure=>simp[intOf];omega
  ·obtain rfl:p=F.length:=by omega
   have hE2:refE f F=E:=by rw[HE.out,List.drop_length];cases g <;> simp[refE]
   have hCl:(encB ⟨#[41]⟩).data.toList=bytesOf [wClose]:=by decide
   have hCls:(encB ⟨#[41]⟩).size=16:=by decide
   have hfin:X=t++encB ⟨#[41]⟩:=WideShapes.bytes_inj (by rw[HX.out,data_appendV,HT.out,hE2,hCl]);have HF:=hide hfin;have hsum:t.size+(encB ⟨#[41]⟩).size≤9223372036854775807:=by omega
   clear hCl hCls HX hfin
   go_wp2_with fail
   refine (Str_any ⟨#[41]⟩ wr (by decide)).mono ?_;rintro e w5 ⟨rfl,hb5⟩;go_wp2;go_ret;exact ⟨by rw[HF.out];rfl,hbel.trans (hb5.mono hszr)⟩
theorem below_dN {B:Nat} {a w:World} (h:Below B a w):∀q,Below B a (w.drewN q)
 | 0=>h
 | q+1=>(below_dN h q).drew
theorem sameTree_any (b off cap b' off' cap':Nat) (ns:List Nd) (w:World) (_hbl:b<w.heap.size) (_hbl':b'<w.heap.size) (hN:NodesAt w b off ns) (hN':NodesAt w b' off' ns) (hln:ns.length≤1000000) (hpos:0<ns.length) :
  Calls Tryz.prog 44 #[.slice (some ⟨b,off,none⟩) ns.length cap,.slice (some ⟨b',off',none⟩) ns.length cap'] w fun e w'=>e=.returned (.bool true)∧Below w.heap.size w w':=by
 have HN:=hide hN;have HN':=hide hN';clear hN hN';go_enter Tryz.func44,Tryz.ntmps44;go_wp2
 go_loopw [5,13] (fun _ i w1=>∃j n:Nat,j≤ns.length∧i=.int .i64 j∧Hid (w1=w.drewN n)) (fun _ i _=>ns.length - (intOf i).toNat)
 case atStart=>exact ⟨0,0,by omega,rfl,rfl⟩
 case round=>
  obtain ⟨j,n,hj,rfl,HW⟩:=hrel;have hcl:∀a,wr.cell? a=w.cell? a:=fun a=>by rw[HW.out];simp
  by_cases hlt:j<ns.length
  ·obtain ⟨c0,c1,c2⟩:=HN.out j hlt;obtain ⟨d0,d1,d2⟩:=HN'.out j hlt;rw[← hcl]at c0 c1 c2 d0 d1 d2;generalize ns[j]=y at c0 c1 c2 d0 d1 d2;obtain ⟨yp,yk,yd⟩:=y;simp only at c0 c1 c2 d0 d1 d2;have hltz:(j:Int)<ns.length:=by omega
   clear hcl;go_wp2
   go_quiet (fail)
   go_wp2;go_roundw
   case rel=>exact ⟨j+1,n+nq,by omega,by go_num,by show _=_;rw[HW.out,World.drewN_drewN]⟩
   case measure=>simp[intOf];omega
  ·clear hcl;go_wp2;go_ret;exact ⟨rfl,by rw[HW.out];exact below_dN (Below.refl _ _) n⟩
def wInt (o:Option Nat):Int:=match o with | none=>-1 | some k=>(k:Int)
theorem wrongGo_step (ns:List Nd) (j:Nat) (h:j<ns.length):wrongGo (ns.take j) (ns.drop j)=if rightB (ns.take j) ns[j]=true then wrongGo (ns.take (j+1)) (ns.drop (j+1)) else some j:=by
 rw[List.drop_eq_getElem_cons h];simp only[wrongGo];have e:ns.take j++[ns[j]]=ns.take (j+1):=by rw[List.take_succ_eq_append_getElem h]
 have hl:(ns.take j).length=j:=by rw[List.length_take];omega
 rw[e,hl]
theorem Wrong_any (v:Value) (ns:List Nd) (w:World) (hv:SliceN w v ns) (hsm:Small ns) :
  Calls Tryz.prog 38 #[v] w fun e w'=>e=.returned (.int .i64 (wInt (refWrong ns)))∧Below w.heap.size w w':=by
 obtain ⟨a,cap,rfl,hcap,hmax,hnone,hcells⟩:=hv;have hl1:=hsm.1
 by_cases hn:ns.length=0
 ·have hns:ns=[]:=List.eq_nil_of_length_eq_zero hn;subst hns;have hR:wInt (refWrong [])=0:=rfl;rw[hR];clear hR hcells;go_enter Tryz.func38,Tryz.ntmps38;go_wp2;refine wp_loop_rounds 1 ?_;rw[rounds_succ];go_wp2;go_ret;exact ⟨rfl,Below.refl _ _⟩
 ·obtain ⟨b,off,rfl,hbl,hN⟩:=hcells (by omega);obtain ⟨R,hR⟩:∃R,refWrong ns=R:=⟨_,rfl⟩;rw[hR];have hne:((ns.length:Int) == 0)=false:=beq_eq_false_iff_ne.2 (by omega);have HR:Hid (wrongGo [] ns=R):=by show _=_;rw[← hR];unfold refWrong;rw[if_neg (fun e=>hn (by rw[e];rfl))]
  have HN:=hide hN;have HS:=hide hsm;have hcap':=hcap;clear hR hcells hN hsm hnone;go_enter Tryz.func38,Tryz.ntmps38;go_wp2
  go_loopw [3,6] (fun _ i w1=>∃j:Nat,j≤ns.length∧i=.int .i64 j∧Below w.heap.size w w1∧Hid (wrongGo (ns.take j) (ns.drop j)=R)) (fun _ i _=>ns.length - (intOf i).toNat)
  case atStart=>exact ⟨0,by omega,rfl,Below.refl _ _,by simpa using HR⟩
  case round=>
   obtain ⟨j,hj,rfl,hbel,HW⟩:=hrel;have hszr:=hbel.size
   by_cases hlt:j<ns.length
   ·have hst:=wrongGo_step ns j hlt;rw[HW.out]at hst;have cR:=hide (right_any b off cap ns j hlt hcap hmax wr (by omega) (HN.out.below hbel hbl) HS.out);cases hr:rightB (ns.take j) ns[j] with
    | true=>
     rw[hr]at cR hst;simp only[if_true]at hst;have HST:=hide hst.symm;clear hst hr
     go_wp2_with fail
     refine cR.out.mono ?_;rintro e w2 ⟨rfl,hb2⟩;clear cR;go_wp2;go_roundw
     case rel=>exact ⟨j+1,by omega,by go_num,hbel.trans (hb2.mono hszr),HST⟩
     case measure=>simp[intOf];omega
    | false=>
     rw[hr]at cR hst;rw[if_neg (by decide)]at hst;subst hst;clear hr HW HR
     go_wp2_with fail
     refine cR.out.mono ?_;rintro e w2 ⟨rfl,hb2⟩;clear cR;go_wp2;go_ret;exact ⟨rfl,hbel.trans (hb2.mono hszr)⟩
   ·obtain rfl:j=ns.length:=by omega
    have hRv:R=none:=by have h:=HW.out;rw[List.drop_length]at h;exact h.symm
    subst hRv;clear HW HR;go_wp2;go_ret;exact ⟨rfl,hbel⟩
theorem ref_of (f:Nat) (IH:∀g,g<f→PRef g):PRef f:=by
 intro b off cap x F w hbl hN hcap hmax hsm hf hbk hkd;obtain ⟨path,kind,data⟩:=x;have hk:=hkd _ (List.mem_cons_self);simp only at hk;rcases hk with rfl | rfl | rfl | rfl
 ·exact ref_file f b off cap path data F w hbl hN hsm
 ·exact ref_exec f b off cap path data F w hbl hN hsm
 ·exact ref_link f b off cap path data F w hbl hN hsm
 ·exact ref_dir f IH b off cap path data F w hbl hN hcap hmax hsm (fun n hn=>hkd n (List.mem_cons_of_mem _ hn)) hf hbk
theorem ref_any:∀f g,g≤f→PRef g
 | 0,g,h=>ref_of g (fun x hx=>by omega)
 | f+1,g,h=>ref_of g (fun x hx=>ref_any f x (by omega))
theorem refPack_any (b off cap:Nat) (x:Nd) (F:List Nd) (w:World) (hbl:b<w.heap.size) (hN:NodesAt w b off (x :: F)) (hcap:(x :: F).length≤cap) (hmax:cap≤maxLen) (hsm:Small (x :: F)) (hbk:bulk (x :: F)≤1000000000) (hkd:Kinds (x :: F)) :
  Calls Tryz.prog 50 #[.slice (some ⟨b,off,none⟩) (F.length+1) cap] w fun e w'=>e=.returned (.string (strB (refBytes (x :: F))))∧Below w.heap.size w w':=by
 obtain ⟨P,hP⟩:∃P,strB (refN (refE F.length) x F)=P:=⟨_,rfl⟩;have hPd:P.data.toList=refN (refE F.length) x F:=by rw[← hP,strB_data]
 have hPs:P.size≤1000000000:=by rw[size_of_dataV hPd];have:=refN_bulk (refE F.length) x F (refE_bulk _ F);omega
 have hA:(encB ⟨#[110,97,114,45,49]⟩).data.toList=bytesOf [wNar]:=by decide
 have hAs:(encB ⟨#[110,97,114,45,49]⟩).size=16:=by decide
 obtain ⟨A,hAA⟩:∃A,encB ⟨#[110,97,114,45,49]⟩=A:=⟨_,rfl⟩;have hX:strB (refBytes (x :: F))=A++P:=WideShapes.bytes_inj (by rw[strB_data,data_appendV,← hAA,hA,hPd];rfl);rw[hX];have cA:=hide (Str_any ⟨#[110,97,114,45,49]⟩ w (by decide));rw[hAA]at cA hAs;have hsum:A.size+P.size≤9223372036854775807:=by omega
 have cP:∀W,Below w.heap.size w W→Calls Tryz.prog 78 #[.slice (some ⟨b,off,none⟩) (F.length+1) cap] W fun e w'=>e=.returned (.string P)∧Below W.heap.size W w':=fun W hW=>by
  rw[← hP];exact ref_any F.length F.length (Nat.le_refl _) b off cap x F W (by have:=hW.size;omega) (hN.below hW hbl) hcap hmax hsm (Nat.le_refl _) hbk hkd
 have CP:=hide cP;clear hX hA hAs hAA hPd hP cP hN hkd hsm;go_enter Tryz.func50,Tryz.ntmps50
 go_wp2_with fail
 refine cA.out.mono ?_;rintro e w1 ⟨rfl,hb1⟩;clear cA
 go_wp2_with fail
 refine (CP.out w1 hb1).mono ?_;rintro e w2 ⟨rfl,hb2⟩;go_wp2;go_ret;exact ⟨rfl,hb1.trans (hb2.mono hb1.size)⟩
theorem len30 (ns:List Nd) (h:refWrong ns=none):ns.length≤30∧ns≠[]∧Kinds ns:=by
 rw[← firstW_eq]at h;cases ns with
 | nil=>cases h
 | cons x F=>
  unfold firstW at h;rw[if_neg (by simp)]at h;obtain ⟨h1,h2⟩:=fwGo_kinds _ _ _ h;have:=h2 (by simp);exact ⟨by omega,by simp,h1⟩
end Go.Proofs.YticfcjmlphhpgaaGreatDoor
