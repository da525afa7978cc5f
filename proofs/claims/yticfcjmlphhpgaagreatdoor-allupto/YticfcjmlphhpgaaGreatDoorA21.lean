import Derived.Test.YticfcjmlphhpgaaGreatDoorA16
import Derived.Test.YticfcjmlphhpgaaGreatDoorA19
import Derived.Test.YticfcjmlphhpgaaGreatDoorA20
import Derived.Deep.RegionHeld3
set_option maxRecDepth 20000
set_option maxHeartbeats 4000000
namespace Go.Proofs.YticfcjmlphhpgaaGreatDoor
open Go.RowKit
def FootV (F:Nat→Prop) (v:Value):Prop:=∀ad n c,v=.slice (some ad) n c→F ad.block
def Foot (F:Nat→Prop) (v:Value):Prop:=∀t a n c,v=.agg #[t,.slice a n c]→FootV F (.slice a n c)
theorem FootV.mono {F F':Nat→Prop} {v:Value} (h:FootV F v) (hF:∀k,F k→F' k):FootV F' v:=fun ad n c e=>hF _ (h ad n c e)
theorem Foot.mono {F F':Nat→Prop} {v:Value} (h:Foot F v) (hF:∀k,F k→F' k):Foot F' v:=fun t a n c e=>(h t a n c e).mono hF
def PStF (F:Nat→Prop) (w:World) (b:Nat) (S:List Ent):Prop:=∃L,MapAt w b L∧EntsAt w L S∧∀x∈L,Foot (fun k=>F k∧k<w.heap.size) x.2
theorem PStF.st {F:Nat→Prop} {w:World} {b:Nat} {S:List Ent} (h:PStF F w b S):PSt w b S:=by
 obtain ⟨L,h1,h2,_⟩:=h;exact ⟨L,h1,h2⟩
theorem PStF.lt {F:Nat→Prop} {w:World} {b:Nat} {S:List Ent} (h:PStF F w b S):b<w.heap.size:=h.st.lt
theorem PStF.below {F:Nat→Prop} {w w':World} {b:Nat} {S:List Ent} (h:PStF F w b S) (hb:Below w.heap.size w w'):PStF F w' b S:=by
 obtain ⟨L,h1,h2,h3⟩:=h;exact ⟨L,h1.blk (hb.block _ (World.ownsMap.lt h1)),h2.mono (fun v ss hs=>hs.below hb),fun x hx=>(h3 x hx).mono fun k hk=>⟨hk.1,Nat.lt_of_lt_of_le hk.2 hb.size⟩⟩
theorem PStF.mono {F F':Nat→Prop} {w:World} {b:Nat} {S:List Ent} (h:PStF F w b S) (hF:∀k,F k→F' k):PStF F' w b S:=by
 obtain ⟨L,h1,h2,h3⟩:=h;exact ⟨L,h1,h2,fun x hx=>(h3 x hx).mono fun k hk=>⟨hF k hk.1,hk.2⟩⟩
theorem own_newF {F:Nat→Prop} {w:World} {base size n:Nat} {e:TypeId} {v:Value} {xs:List Value} (h:w.ownsRow base e size v n xs) (hF:∀k,base≤k→F k):FootV (fun k=>F k∧k<w.heap.size) v:=fun ad n' c' e'=>⟨hF _ (own_new h ad n' c' e'),(h.lt _ (by rw[e'];rfl)).2⟩
theorem insK_memF {x y:Bs × Value}:∀{L:List (Bs × Value)},y∈insK x L→y=x∨y∈L:=insK_mem.1
theorem put_entF (F:Nat→Prop) (b:Nat) (S:List Ent) (x:Ent) (a:Option Addr) (n c:Nat) (w:World) (h:PStF F w b S) (hfo:FootV (fun k=>F k∧k<w.heap.size) (.slice a n c)) (hx:SliceS w (.slice a n c) x.refs) (hl:x.refs.length≤1000000000) (hS:∀e∈S,e.refs.length≤1000000000) (hs:x.path.size≤1000000000) :
  Calls Tryz.prog 65 #[.map (some b),.string x.path,.agg #[.string (packB x.nodes),.slice a n c]] w fun e w'=>e=.returned (.int .i64 (putS S x).1)∧PStF F w' b (putS S x).2∧Wrote b w w':=by
 have h0:=h;obtain ⟨L,h1,h2,h3⟩:=h;have hblt:=World.ownsMap.lt h1;have hlen:=h2.length;have hf:=h2.find x.path;unfold putS;cases hfS:findS S x.path with
 | some e=>
  rw[hfS]at hf;obtain ⟨a0,n0,c0,hf,hy⟩:=hf;have hmem:e∈S:=List.mem_of_find?_eq_some hfS;refine (put_there b L x.path (packB x.nodes) (packB e.nodes) a a0 n c n0 c0 x.refs e.refs w h1 hf hx hy hl (hS e hmem) hs).mono ?_;rintro en w' ⟨rfl,hb⟩;exact ⟨rfl,h0.below hb,Wrote.of hblt hb⟩
 | none=>
  rw[hfS]at hf;simp only at hf
  by_cases hfull:10≤S.length
  ·simp only[if_pos hfull];refine (put_full b L x.path (packB x.nodes) a n c w h1 hf (by omega) hs).mono ?_;rintro en w' ⟨rfl,hb⟩;exact ⟨rfl,h0.below hb,Wrote.of hblt hb⟩
  ·simp only[if_neg hfull];refine (put_new b L x.path (packB x.nodes) a n c w h1 hf (by omega) hs).mono ?_;rintro en w' ⟨rfl,hm,hk,hB⟩;refine ⟨rfl,⟨_,hm,EntsAt.ins ⟨rfl,a,n,c,rfl,hx.kb h1 hk⟩ (h2.mono (fun v ss hs=>hs.kb h1 hk)),fun y hy=>?_⟩,hk,hB⟩;rcases insK_memF hy with rfl | hy
   ·intro t a' n' c' e';injection e' with e'
    injection e' with e'
    injection e' with e1 e2
    injection e2 with e2 _
    rw[← e2];exact hfo.mono fun k hk'=>⟨hk'.1,Nat.lt_of_lt_of_le hk'.2 hk.size⟩
   ·exact (h3 y hy).mono fun k hk'=>⟨hk'.1,Nat.lt_of_lt_of_le hk'.2 hk.size⟩
theorem InsertF_any (F:Nat→Prop) (b:Nat) (S:List Ent) (x:Ent) (vn vr:Value) (w:World) (h:PStF F w b S) (hF:∀k,w.heap.size≤k→F k) (hT:Lib.Utf8Tabs 0 1 w) (hn:SliceN w vn x.nodes) (hsm:Small x.nodes) (hr:SliceS w vr x.refs) (hl:x.refs.length≤1000000) (hrs:∀r∈x.refs,r.size≤1000000000) (hS:∀e∈S,e.refs.length≤1000000000) (hs:x.path.size≤1000000000) :
  Calls Tryz.prog 36 #[.map (some b),.string x.path,vn,vr] w fun e w'=>e=.returned (.int .i64 (insertF S x).1)∧PStF F w' b (insertF S x).2∧Wrote b w w':=by
 have hblt:=h.lt;obtain ⟨R,hR⟩:∃R,insertF S x=R:=⟨_,rfl⟩;rw[hR];unfold insertF at hR;have hb0:=((Below.refl _ w).alloc (Nat.le_refl _) (.cells #[.map (some b)] 69)).alloc (by simp) (.cells #[.string x.path] 9);have cI:=hide (isPath_any x.path ((w.alloc (.cells #[.map (some b)] 69)).alloc (.cells #[.string x.path] 9)) hs);have hm0:((w.alloc (.cells #[.map (some b)] 69)).alloc (.cells #[.string x.path] 9)).heap[w.heap.size]?=some (.cells #[.map (some b)] 69 (0,0)):=block_keep _ (block_new w _);have hp0:((w.alloc (.cells #[.map (some b)] 69)).alloc (.cells #[.string x.path] 9)).heap[w.heap.size+1]?=some (.cells #[.string x.path] 9 (0,0)):=by
  have:=block_new (w.alloc (.cells #[.map (some b)] 69)) (.cells #[.string x.path] 9)
  rwa [World.size_alloc]at this
 have cP:=hide (treePack_any vn x.nodes _ (Utf8Tabs_below hT hb0) (hn.below hb0) hsm);have HB0:=hide hb0;have HM0:=hide hm0;have HP0:=hide hp0;have H:=hide h;have HF:=hide hF;have HR:=hide hr;have HRS:=hide hrs;have HSS:=hide hS;cases hpath:isPathB x.path.data.toList with
 | false=>
  rw[hpath,if_pos rfl]at hR;rw[hpath]at cI;subst hR;clear hb0 hm0 hp0 h hF hr hn hT cP;go_enter Tryz.func36,Tryz.ntmps36
  go_wp2_with fail
  refine cI.out.mono ?_;rintro e w1 ⟨rfl,rfl⟩;go_wp2;go_ret;exact ⟨rfl,H.out.below HB0.out,Wrote.of hblt HB0.out⟩
 | true=>
  rw[hpath,if_neg (by simp)]at hR;rw[hpath]at cI;cases hw:firstW x.nodes with
  | some k=>
   rw[hw,if_pos (by simp)]at hR;subst hR;rw[packRes_some hw]at cP;clear hb0 hm0 hp0 h hF hr hn hT hw;go_enter Tryz.func36,Tryz.ntmps36
   go_wp2_with fail
   refine cI.out.mono ?_;rintro e w1 ⟨rfl,rfl⟩
   go_wp2_with fail
   refine cP.out.mono ?_;rintro e w2 ⟨rfl,hb2⟩;have hb2':=HB0.out.trans (hb2.mono HB0.out.size);go_wp2;go_ret;exact ⟨rfl,H.out.below hb2',Wrote.of hblt hb2'⟩
  | none=>
   rw[hw,if_neg (by simp)]at hR;rw[packRes_none hw]at cP;clear hb0 hm0 hp0 h hF hr hn hT hw;go_enter Tryz.func36,Tryz.ntmps36
   go_wp2_with fail
   refine cI.out.mono ?_;rintro e w1 ⟨rfl,rfl⟩
   go_wp2_with fail
   refine cP.out.mono ?_;rintro e w2 ⟨rfl,hb2⟩;have HB2:=hide (HB0.out.trans (hb2.mono HB0.out.size));have HM2:=hide ((hb2.block _ (lt_of_block HM0.out)).trans HM0.out);have HP2:=hide ((hb2.block _ (lt_of_block HP0.out)).trans HP0.out);have cR:=hide (rise_any vr x.refs w2 (HR.out.below HB2.out) (by omega));clear cP cI hb2 HM0 HP0 HB0;have hmf:∀(fn:Fn) (first cap:Array Value) (w:World),(Instr.makeFunc fn first cap).run Tryz.prog w=.ok (.func fn first cap) w:=fun _ _ _ _=>rfl
   have c5:w2.cell? ⟨w.heap.size+1,0,none⟩=some (.string x.path):=by simp[World.cell?,HP2.out]
   have c4:w2.cell? ⟨w.heap.size,0,none⟩=some (.map (some b)):=by simp[World.cell?,HM2.out]
   cases hrise:riseL x.refs with
   | false=>
    rw[hrise,if_pos rfl]at hR;rw[hrise]at cR;subst hR
    go_wp2_with fail
    refine cR.out.mono ?_;rintro e w3 ⟨rfl,hb3⟩;have hb3':=HB2.out.trans (hb3.mono HB2.out.size);go_wp2;go_ret;exact ⟨rfl,H.out.below hb3',Wrote.of hblt hb3'⟩
   | true=>
    rw[hrise,if_neg (by simp)]at hR;rw[hrise]at cR
    go_wp2_with fail
    refine cR.out.mono ?_;rintro e w3 ⟨rfl,hb3⟩;have HB3:=hide (HB2.out.trans (hb3.mono HB2.out.size));have HM3:=hide ((hb3.block _ (lt_of_block HM2.out)).trans HM2.out);have HP3:=hide ((hb3.block _ (lt_of_block HP2.out)).trans HP2.out);clear c5 c4 cR hb3;have cC:=hide (ContainsFunc_two vr x.refs (.pointer (some ⟨w.heap.size,0,none⟩)) (.pointer (some ⟨w.heap.size+1,0,none⟩)) 63 (lackS S x.path) w3 (HR.out.below HB3.out) (by omega) (fun args w=>by kernel_rfl) (fun r hr w4 hb4=>by
     obtain ⟨L,h1,h2⟩:=(H.out.st.below HB3.out).below hb4;have:=noRef_any (w.heap.size+1) w.heap.size b x.path r L w4 ((hb4.block _ (lt_of_block HP3.out)).trans HP3.out) ((hb4.block _ (lt_of_block HM3.out)).trans HM3.out) h1 h2.ents (HRS.out r hr);rw[h2.none]at this;exact this))
    have c5:w3.cell? ⟨w.heap.size+1,0,none⟩=some (.string x.path):=by simp[World.cell?,HP3.out]
    have c4:w3.cell? ⟨w.heap.size,0,none⟩=some (.map (some b)):=by simp[World.cell?,HM3.out]
    cases hany:x.refs.any (lackS S x.path) with
    | true=>
     rw[hany,if_pos rfl]at hR;rw[hany]at cC;subst hR
     go_wp2_with fail
     refine cC.out.mono ?_;rintro e w4 ⟨rfl,hb4⟩;have hb4':=HB3.out.trans (hb4.mono HB3.out.size);go_wp2;go_ret;exact ⟨rfl,H.out.below hb4',Wrote.of hblt hb4'⟩
    | false=>
     rw[hany,if_neg (by simp)]at hR;rw[hany]at cC;subst hR
     go_wp2_with fail
     refine cC.out.mono ?_;rintro e w4 ⟨rfl,hb4⟩;have HB4:=hide (HB3.out.trans (hb4.mono HB3.out.size));have HM4:=hide ((hb4.block _ (lt_of_block HM3.out)).trans HM3.out);have HP4:=hide ((hb4.block _ (lt_of_block HP3.out)).trans HP3.out);clear c5 c4 cC hb4;have c5:w4.cell? ⟨w.heap.size+1,0,none⟩=some (.string x.path):=by simp[World.cell?,HP4.out]
     have c4:w4.cell? ⟨w.heap.size,0,none⟩=some (.map (some b)):=by simp[World.cell?,HM4.out]
     go_wp2
     go_region_with (first
      | (go_at_call 66;refine (copied_any vr x.refs _ (HR.out.below (HB4.out.drew)) (by omega) HRS.out).mono ?_;rintro e w5 ⟨v5,rfl,hown5,hb5⟩;have hS5:=own_strs hown5;have HNEW:=hide (own_newF hown5 (fun k hk=>HF.out k (Nat.le_trans HB4.out.size hk)));obtain ⟨a5,cap5,rfl,hc5⟩:=own_sl hown5;have hb5':=hide (HB4.out.drew.trans (hb5.mono HB4.out.drew.size));have HM5:=hide ((hb5.block _ (lt_of_block HM4.out)).trans HM4.out);have HP5:=hide ((hb5.block _ (lt_of_block HP4.out)).trans HP4.out);have c55:w5.cell? ⟨w.heap.size+1,0,none⟩=some (.string x.path):=(by simp[World.cell?,HP5.out]);have c45:w5.cell? ⟨w.heap.size,0,none⟩=some (.map (some b)):=(by simp[World.cell?,HM5.out]);have HS5:=hide hS5;clear hown5 hb5 hS5)
      | (go_at_call 65;refine (put_entF F b S x a5 x.refs.length cap5 w5 (H.out.below hb5'.out) HNEW.out HS5.out (by omega) HSS.out hs).mono ?_;rintro e w6 ⟨rfl,hP6,hW6⟩))
     all_goals
      go_wp2;go_ret;exact ⟨rfl,hP6,(Wrote.of hblt hb5'.out).trans hW6⟩
def NStF (F:Nat→Prop) (w:World) (q b:Nat) (S:List Ent):Prop:=w.heap[q]?=some (.cells #[.map (some b)] 71 (0,0))∧PStF F w b S
theorem NStF.st {F:Nat→Prop} {w:World} {q b:Nat} {S:List Ent} (h:NStF F w q b S):NSt w q b S:=⟨h.1,h.2.st⟩
theorem NStF.below {F:Nat→Prop} {w w':World} {q b:Nat} {S:List Ent} (h:NStF F w q b S) (hb:Below w.heap.size w w'):NStF F w' q b S:=⟨(hb.block _ (lt_of_block h.1)).trans h.1,h.2.below hb⟩
theorem NStF.wrote {F:Nat→Prop} {w w':World} {q b:Nat} {S S':List Ent} (h:NStF F w q b S) (hW:Wrote b w w') (hP:PStF F w' b S'):NStF F w' q b S':=⟨(h.st.wrote hW hP.st).1,hP⟩
theorem narInsertF_any (F:Nat→Prop) (q b:Nat) (S:List Ent) (x:Ent) (vn vr:Value) (w:World) (h:NStF F w q b S) (hF:∀k,w.heap.size≤k→F k) (hT:Lib.Utf8Tabs 0 1 w) (hn:SliceN w vn x.nodes) (hsm:Small x.nodes) (hr:SliceS w vr x.refs) (hl:x.refs.length≤1000000) (hrs:∀r∈x.refs,r.size≤1000000000) (hS:∀e∈S,e.refs.length≤1000000000) (hs:x.path.size≤1000000000) :
  Calls Tryz.prog 19 #[.pointer (some ⟨q,0,none⟩),.string x.path,vn,vr] w fun e w'=>e=.returned (.int .i64 (insertF S x).1)∧NStF F w' q b (insertF S x).2∧Wrote b w w':=by
 have cE:=hide (entries_any q b w h.1);have cI:=hide (InsertF_any F b S x vn vr w h.2 hF hT hn hsm hr hl hrs hS hs);have H:=hide h;clear h hT hn hr;go_enter Tryz.func19,Tryz.ntmps19
 go_wp2_with fail
 refine cE.out.mono ?_;rintro e w1 ⟨rfl,rfl⟩
 go_wp2_with fail
 refine cI.out.mono ?_;rintro e w2 ⟨rfl,hP,hW⟩;go_wp2;go_ret;exact ⟨rfl,H.out.wrote hW hP,hW⟩
theorem Tryz.info76:(Tryz.prog.info? 76).map (fun i=>(i.zero,i.size,i.bytes))=some (some (.agg #[.string ⟨#[]⟩,.slice none 0 0,.slice none 0 0]),3,64):=by kernel_rfl
def belowN (l:List REn) (p:ByteArray):Nat:=l.findIdx fun x=>!bl x.path.data.toList p.data.toList
theorem belowN_eq {l:List REn} {p:ByteArray} (j:Nat) (hj:j≤l.length) (hall:∀k (hk:k<l.length),k<j→bl l[k].path.data.toList p.data.toList=true) (hend:∀(h:j<l.length),bl l[j].path.data.toList p.data.toList=false):belowN l p=j:=by
 unfold belowN
 by_cases h:j<l.length
 ·rw[List.findIdx_eq h];exact ⟨by simp[hend h],fun k hk=>by simp[hall k (by omega) hk]⟩
 ·have e:j=l.length:=by omega
  subst e;rw[List.findIdx_eq_length];intro x hx;obtain ⟨k,hk,rfl⟩:=List.getElem_of_mem hx;simp[hall k hk hk]
def insR (l:List REn) (x:REn):List REn:=l.take (belowN l x.path)++[x]++l.drop (belowN l x.path)
theorem cellsR {w:World} {b off:Nat}:∀{l:List REn},(∀j (h:j<l.length),w.cell? ⟨b,off+j*3,none⟩=some (.string l[j].path)∧w.cell? ⟨b,off+j*3+1,none⟩=some l[j].tree∧w.cell? ⟨b,off+j*3+2,none⟩=some l[j].refs)→∀j u,(flatR l)[j]?=some u→w.cell? ((⟨b,off,none⟩:Addr).add j)=some u:=by
 intro l h j u hj;have hl:j<l.length*3:=by rw[← flatR_length];exact (List.getElem?_eq_some_iff.1 hj).1
 have hadd:∀i,(⟨b,off,none⟩:Addr).add i=⟨b,off+i,none⟩:=fun i=>by unfold Addr.add;split <;> simp_all
 have hd:j / 3<l.length:=by omega
 obtain ⟨c0,c1,c2⟩:=h (j / 3) hd;obtain ⟨g0,g1,g2⟩:=flatR_get l (j / 3) hd;rw[hadd];rcases (show j=j / 3*3∨j=j / 3*3+1∨j=j / 3*3+2 by omega) with e | e | e
 ·rw[e]at hj ⊢;rw[g0]at hj;rw[← hj];exact c0
 ·rw[e]at hj ⊢;rw[g1]at hj;rw[← hj];exact c1
 ·rw[e]at hj ⊢;rw[g2]at hj;rw[← hj];exact c2
theorem dropC {w w3:World} {b off N:Nat} {l:List REn} (h:∀j (h:j<l.length),w.cell? ⟨b,off+j*3,none⟩=some (.string l[j].path)∧w.cell? ⟨b,off+j*3+1,none⟩=some l[j].tree∧w.cell? ⟨b,off+j*3+2,none⟩=some l[j].refs) (hN:N≤l.length) (hk:∀a:Addr,a.block=b→w3.cell? a=w.cell? a) :
  ∀k (hk:k<(l.drop N).length),w3.cell? ⟨b,off+N*3+k*3,none⟩=some (.string (l.drop N)[k].path)∧w3.cell? ⟨b,off+N*3+k*3+1,none⟩=some (l.drop N)[k].tree∧w3.cell? ⟨b,off+N*3+k*3+2,none⟩=some (l.drop N)[k].refs:=by
 intro k hk2;have hlt:N+k<l.length:=by rw[List.length_drop]at hk2;omega
 obtain ⟨c0,c1,c2⟩:=h (N+k) hlt;rw[List.getElem_drop,hk _ rfl,hk _ rfl,hk _ rfl,show off+N*3+k*3=off+(N+k)*3 by omega];exact ⟨c0,c1,c2⟩
theorem rput_some (b off cap:Nat) (l:List REn) (x:REn) (w:World) (hbl:b<w.heap.size) (hcap:l.length≤cap) (hX:∀j (h:j<l.length),w.cell? ⟨b,off+j*3,none⟩=some (.string l[j].path)∧w.cell? ⟨b,off+j*3+1,none⟩=some l[j].tree∧w.cell? ⟨b,off+j*3+2,none⟩=some l[j].refs) (hl:l.length≤1000) (hpos:0<l.length) :
  Calls Tryz.prog 41 #[.slice (some ⟨b,off,none⟩) l.length cap,.agg #[.string x.path,x.tree,x.refs]] w fun e w'=>∃v,e=.returned v∧w'.ownsRow w.heap.size 76 3 v (l.length+1) (flatR (insR l x))∧Below w.heap.size w w':=by
 obtain ⟨i76,hi,hz0,hz1,hz2⟩:=info_parts Tryz.info76;obtain ⟨xp,ta,tn,tc,ra,rn,rc⟩:=x;obtain ⟨N,hN⟩:∃N,belowN l xp=N:=⟨_,rfl⟩;unfold REn.tree REn.refs insR;simp only;rw[hN];have HN:=hide hN;have hb0:=(Below.refl _ w).alloc (Nat.le_refl _) (.cells #[.string xp,.slice ta tn tc,.slice ra rn rc] 76);have k0:=block_new w (.cells #[.string xp,.slice ta tn tc,.slice ra rn rc] 76);have HX:=hide hX;have HB0:=hide hb0;have K0:=hide k0;clear hX hN hb0 k0;go_enter Tryz.func41,Tryz.ntmps41;go_wp2;generalize w.alloc (.cells #[.string xp,.slice ta tn tc,.slice ra rn rc] 76)=W0 at *
 go_loopw [5] (fun i w1=>∃j n:Nat,j≤l.length∧i=.int .i64 j∧Hid (w1=W0.drewN n)∧Hid (∀k (hk:k<l.length),k<j→bl l[k].path.data.toList xp.data.toList=true)) (fun i _=>l.length - (intOf i).toNat)
 case atStart=>exact ⟨0,0,by omega,rfl,rfl,fun k _ hk=>by omega⟩
 case round=>
  obtain ⟨j,n,hj,rfl,HW,hall⟩:=hrel;have hcl:∀a,wr.cell? a=W0.cell? a:=fun a=>by rw[HW.out];simp
  have e0:wr.cell? ⟨w.heap.size,0,none⟩=some (.string xp):=by rw[hcl];simp[World.cell?,K0.out]
  have e1:wr.cell? ⟨w.heap.size,1,none⟩=some (.slice ta tn tc):=by rw[hcl];simp[World.cell?,K0.out]
  have e2:wr.cell? ⟨w.heap.size,2,none⟩=some (.slice ra rn rc):=by rw[hcl];simp[World.cell?,K0.out]
  by_cases hlt:j<l.length
  ·have c0:=((hcl _).trans (HB0.out.cell (p:=⟨b,off+j*3,none⟩) hbl)).trans (HX.out j hlt).1;have hltz:(j:Int)<l.length:=by omega
   have hdec:decide ((j:Int)<l.length)=true:=decide_eq_true hltz;cases hbl2:bl l[j].path.data.toList xp.data.toList with
   | true=>
    have hall':Hid (∀k (hk:k<l.length),k<j+1→bl l[k].path.data.toList xp.data.toList=true):=fun k hk hkj=>by
     by_cases e':k=j
     ·subst e';exact hbl2
     ·exact hall.out k hk (by omega)
    have hb:Op.bytesLess l[j].path.toList xp.toList=true:=by rw[ByteArray.toList_eq,ByteArray.toList_eq];exact hbl2
    generalize l[j].path=z at c0 hb;clear hall hcl hbl2;go_wp2
    go_quiet (fail)
    go_wp2;go_roundw
    case rel=>exact ⟨j+1,n+nq,by omega,by go_num,by show _=_;rw[HW.out,World.drewN_drewN],hall'⟩
    case measure=>simp[intOf];omega
   | false=>
    obtain rfl:N=j:=by rw[← HN.out];exact belowN_eq j (by omega) hall.out (fun _=>hbl2)
    have hb:Op.bytesLess l[N].path.toList xp.toList=false:=by rw[ByteArray.toList_eq,ByteArray.toList_eq];exact hbl2
    generalize l[N].path=z at c0 hb;clear hall hcl hbl2 HN;go_wp2
    go_quiet (fail)
    have HB1:Hid (Below w.heap.size w (wr.drewN nq)):=by rw[HW.out,World.drewN_drewN];exact below_drewN HB0.out _
    have K1:Hid ((wr.drewN nq).heap[w.heap.size]?=some (.cells #[.string xp,.slice ta tn tc,.slice ra rn rc] 76 (0,0))):=by rw[HW.out,World.drewN_drewN];exact K0.out
    clear c0 e0 e1 e2;generalize wr.drewN nq=W1 at *;have hsz1:=HB1.out.size;have HC1:Hid (∀j (h:j<l.length),W1.cell? ⟨b,off+j*3,none⟩=some (.string l[j].path)∧W1.cell? ⟨b,off+j*3+1,none⟩=some l[j].tree∧W1.cell? ⟨b,off+j*3+2,none⟩=some l[j].refs):=fun j h=>by
     obtain ⟨a0,a1,a2⟩:=HX.out j h;exact ⟨(HB1.out.cell hbl).trans a0,(HB1.out.cell hbl).trans a1,(HB1.out.cell hbl).trans a2⟩
    have e0:W1.cell? ⟨w.heap.size,0,none⟩=some (.string xp):=by simp[World.cell?,K1.out]
    have hblk:w.heap.size<W1.heap.size:=lt_of_block K1.out;have HF1:Hid (∀k (hk:k<(l.take N).length),W1.cell? ⟨b,off+k*3,none⟩=some (.string (l.take N)[k].path)∧W1.cell? ⟨b,off+k*3+1,none⟩=some (l.take N)[k].tree∧W1.cell? ⟨b,off+k*3+2,none⟩=some (l.take N)[k].refs):=fun k hk=>by
     have hk2:k<l.length:=by rw[List.length_take]at hk;omega
     rw[List.getElem_take];exact HC1.out k hk2
    go_wp2_with (at_builtin;first
     | (refine wpList_append_own _ rfl (.const (.slice none 0 0)) (.tmp 25) 46 rfl W1.heap.size 76 i76 (.agg #[.string ⟨#[]⟩,.slice none 0 0,.slice none 0 0]) 3 64 Tryz.underlying46 hi hz0 hz1 hz2 rfl (by decide) (.slice none 0 0) 0 [] rfl (World.ownsRow_nil _ _ _ _) ⟨b,off,none⟩ N cap (flatR (l.take N)) rfl (by rw[flatR_length,List.length_take];omega) (cellsR HF1.out) (flatR_one _) (by unfold maxLen;omega) (by omega) (Nat.le_refl _) ?_;intro v2 w2 hown2 hgrow2 hnil2;rw[Nat.zero_add,List.nil_append]at hown2;obtain ⟨a2,c2,rfl,hc2⟩:=own_sl hown2;have HB2:=hide ((Below.refl W1.heap.size W1).grown hgrow2 (Nat.le_refl _) (fun k hk=>by cases hk));have K2:=hide ((HB2.out.block _ hblk).trans K1.out);have g0:w2.cell? ⟨w.heap.size,0,none⟩=some (.string xp):=(by simp[World.cell?,K2.out]);have g1:w2.cell? ⟨w.heap.size,1,none⟩=some (.slice ta tn tc):=(by simp[World.cell?,K2.out]);have g2:w2.cell? ⟨w.heap.size,2,none⟩=some (.slice ra rn rc):=(by simp[World.cell?,K2.out]);have HO2:=hide hown2;have hsz2:=HB2.out.size;clear hown2 hgrow2 hnil2)
     | (refine wpList_append_own _ rfl (.tmp 27) (.tmp 29) 46 rfl W1.heap.size 76 i76 (.agg #[.string ⟨#[]⟩,.slice none 0 0,.slice none 0 0]) 3 64 Tryz.underlying46 hi hz0 hz1 hz2 rfl (by decide) (.slice a2 N c2) N (flatR (l.take N)) rfl (HO2.out.alloc _) ⟨w2.heap.size,0,none⟩ 1 1 [.string xp,.slice ta tn tc,.slice ra rn rc] rfl rfl (cell_three_at _ _ _ _ _ _ rfl) (fun y hy=>by simp at hy;rcases hy with rfl | rfl | rfl <;> rfl) (by unfold maxLen;omega) (by omega) (by simp;omega) ?_;intro v3 w3 hown3 hgrow3 hnil3;obtain ⟨a3,c3,rfl,hc3⟩:=own_sl hown3;have HB3:=hide ((HB2.out.alloc hsz2 _).grown hgrow3 (by simp;omega) (fun k hk=>(HO2.out.lt k hk).1));have HO3:=hide hown3;have hsz3:=HB3.out.size;have HF3:Hid (∀k (hk:k<(l.drop N).length),w3.cell? ⟨b,off+N*3+k*3,none⟩=some (.string (l.drop N)[k].path)∧w3.cell? ⟨b,off+N*3+k*3+1,none⟩=some (l.drop N)[k].tree∧w3.cell? ⟨b,off+N*3+k*3+2,none⟩=some (l.drop N)[k].refs):=dropC HC1.out hj (fun a ha=>HB3.out.cell (by omega));clear hown3 hgrow3 hnil3)
     | (refine wpList_append_own _ rfl (.tmp 31) (.tmp 34) 46 rfl W1.heap.size 76 i76 (.agg #[.string ⟨#[]⟩,.slice none 0 0,.slice none 0 0]) 3 64 Tryz.underlying46 hi hz0 hz1 hz2 rfl (by decide) (.slice a3 (N+1) c3) (N+1) (flatR (l.take N)++[.string xp,.slice ta tn tc,.slice ra rn rc]) rfl HO3.out ⟨b,off+N*3,none⟩ (l.length - N) (cap - N) (flatR (l.drop N)) rfl (by rw[flatR_length,List.length_drop]) (cellsR HF3.out) (flatR_one _) (by unfold maxLen;omega) (by omega) (by omega) ?_;intro v4 w4 hown4 hgrow4 hnil4;have HB4:=hide (HB3.out.grown hgrow4 hsz3 (fun k hk=>(HO3.out.lt k hk).1));have HO4:=hide hown4;clear hown4 hgrow4 hnil4))
    go_ret;refine ⟨_,rfl,?_,HB1.out.trans (HB4.out.mono hsz1)⟩;have:=own_base HO4.out (show w.heap.size≤W1.heap.size by omega);rw[flatR_append,flatR_append,show N+1+(l.length - N)=l.length+1 by omega]at *;exact this
  ·obtain rfl:N=j:=by rw[← HN.out];exact belowN_eq j (by omega) hall.out (fun h=>absurd h hlt)
   have hdec:decide ((N:Int)<l.length)=false:=decide_eq_false (by omega);clear hall hcl HN
   by_cases hcN:cap=N
   ·subst hcN;have hN0:¬ cap=0:=by omega
    go_wp2
    go_quiet (fail)
    have HB1:Hid (Below w.heap.size w (wr.drewN nq)):=by rw[HW.out,World.drewN_drewN];exact below_drewN HB0.out _
    have K1:Hid ((wr.drewN nq).heap[w.heap.size]?=some (.cells #[.string xp,.slice ta tn tc,.slice ra rn rc] 76 (0,0))):=by rw[HW.out,World.drewN_drewN];exact K0.out
    clear e0 e1 e2;generalize wr.drewN nq=W1 at *;have hsz1:=HB1.out.size;have HC1:Hid (∀j (h:j<l.length),W1.cell? ⟨b,off+j*3,none⟩=some (.string l[j].path)∧W1.cell? ⟨b,off+j*3+1,none⟩=some l[j].tree∧W1.cell? ⟨b,off+j*3+2,none⟩=some l[j].refs):=fun j h=>by
     obtain ⟨a0,a1,a2⟩:=HX.out j h;exact ⟨(HB1.out.cell hbl).trans a0,(HB1.out.cell hbl).trans a1,(HB1.out.cell hbl).trans a2⟩
    have e0:W1.cell? ⟨w.heap.size,0,none⟩=some (.string xp):=by simp[World.cell?,K1.out]
    have hblk:w.heap.size<W1.heap.size:=lt_of_block K1.out;have HF1:Hid (∀k (hk:k<(l.take cap).length),W1.cell? ⟨b,off+k*3,none⟩=some (.string (l.take cap)[k].path)∧W1.cell? ⟨b,off+k*3+1,none⟩=some (l.take cap)[k].tree∧W1.cell? ⟨b,off+k*3+2,none⟩=some (l.take cap)[k].refs):=fun k hk=>by
     have hk2:k<l.length:=by rw[List.length_take]at hk;omega
     rw[List.getElem_take];exact HC1.out k hk2
    go_wp2_with (at_builtin;first
     | (refine wpList_append_own _ rfl (.const (.slice none 0 0)) (.tmp 25) 46 rfl W1.heap.size 76 i76 (.agg #[.string ⟨#[]⟩,.slice none 0 0,.slice none 0 0]) 3 64 Tryz.underlying46 hi hz0 hz1 hz2 rfl (by decide) (.slice none 0 0) 0 [] rfl (World.ownsRow_nil _ _ _ _) ⟨b,off,none⟩ cap cap (flatR (l.take cap)) rfl (by rw[flatR_length,List.length_take];omega) (cellsR HF1.out) (flatR_one _) (by unfold maxLen;omega) (by omega) (Nat.le_refl _) ?_;intro v2 w2 hown2 hgrow2 hnil2;rw[Nat.zero_add,List.nil_append]at hown2;obtain ⟨a2,c2,rfl,hc2⟩:=own_sl hown2;have HB2:=hide ((Below.refl W1.heap.size W1).grown hgrow2 (Nat.le_refl _) (fun k hk=>by cases hk));have K2:=hide ((HB2.out.block _ hblk).trans K1.out);have g0:w2.cell? ⟨w.heap.size,0,none⟩=some (.string xp):=(by simp[World.cell?,K2.out]);have g1:w2.cell? ⟨w.heap.size,1,none⟩=some (.slice ta tn tc):=(by simp[World.cell?,K2.out]);have g2:w2.cell? ⟨w.heap.size,2,none⟩=some (.slice ra rn rc):=(by simp[World.cell?,K2.out]);have HO2:=hide hown2;have hsz2:=HB2.out.size;clear hown2 hgrow2 hnil2)
     | (refine wpList_append_own _ rfl (.tmp 27) (.tmp 29) 46 rfl W1.heap.size 76 i76 (.agg #[.string ⟨#[]⟩,.slice none 0 0,.slice none 0 0]) 3 64 Tryz.underlying46 hi hz0 hz1 hz2 rfl (by decide) (.slice a2 cap c2) cap (flatR (l.take cap)) rfl (HO2.out.alloc _) ⟨w2.heap.size,0,none⟩ 1 1 [.string xp,.slice ta tn tc,.slice ra rn rc] rfl rfl (cell_three_at _ _ _ _ _ _ rfl) (fun y hy=>by simp at hy;rcases hy with rfl | rfl | rfl <;> rfl) (by unfold maxLen;omega) (by omega) (by simp;omega) ?_;intro v3 w3 hown3 hgrow3 hnil3;obtain ⟨a3,c3,rfl,hc3⟩:=own_sl hown3;have HB3:=hide ((HB2.out.alloc hsz2 _).grown hgrow3 (by simp;omega) (fun k hk=>(HO2.out.lt k hk).1));have HO3:=hide hown3;have hsz3:=HB3.out.size;have HF3:Hid (∀k (hk:k<(l.drop cap).length),w3.cell? ⟨b,off+cap*3+k*3,none⟩=some (.string (l.drop cap)[k].path)∧w3.cell? ⟨b,off+cap*3+k*3+1,none⟩=some (l.drop cap)[k].tree∧w3.cell? ⟨b,off+cap*3+k*3+2,none⟩=some (l.drop cap)[k].refs):=dropC HC1.out hj (fun a ha=>HB3.out.cell (by omega));clear hown3 hgrow3 hnil3)
     | (refine wpList_append_own _ rfl (.tmp 31) (.tmp 34) 46 rfl W1.heap.size 76 i76 (.agg #[.string ⟨#[]⟩,.slice none 0 0,.slice none 0 0]) 3 64 Tryz.underlying46 hi hz0 hz1 hz2 rfl (by decide) (.slice a3 (cap+1) c3) (cap+1) (flatR (l.take cap)++[.string xp,.slice ta tn tc,.slice ra rn rc]) rfl HO3.out ⟨b,off,none⟩ 0 0 [] rfl rfl (fun k u hk=>by simp at hk) (fun y hy=>by cases hy) (by unfold maxLen;omega) (by omega) (by omega) ?_;intro v4 w4 hown4 hgrow4 hnil4;have HB4:=hide (HB3.out.grown hgrow4 hsz3 (fun k hk=>(HO3.out.lt k hk).1));have HO4:=hide hown4;clear hown4 hgrow4 hnil4))
    go_ret;refine ⟨_,rfl,?_,HB1.out.trans (HB4.out.mono hsz1)⟩;have:=own_base HO4.out (show w.heap.size≤W1.heap.size by omega);have hd:l.drop cap=[]:=List.drop_eq_nil_of_le (by omega);rw[Nat.add_zero,List.append_nil,show cap+1=l.length+1 by omega]at this;rw[flatR_append,flatR_append,hd];simpa[flatR,REn.tree,REn.refs] using this
   ·go_wp2
    go_quiet (fail)
    have HB1:Hid (Below w.heap.size w (wr.drewN nq)):=by rw[HW.out,World.drewN_drewN];exact below_drewN HB0.out _
    have K1:Hid ((wr.drewN nq).heap[w.heap.size]?=some (.cells #[.string xp,.slice ta tn tc,.slice ra rn rc] 76 (0,0))):=by rw[HW.out,World.drewN_drewN];exact K0.out
    clear e0 e1 e2;generalize wr.drewN nq=W1 at *;have hsz1:=HB1.out.size;have HC1:Hid (∀j (h:j<l.length),W1.cell? ⟨b,off+j*3,none⟩=some (.string l[j].path)∧W1.cell? ⟨b,off+j*3+1,none⟩=some l[j].tree∧W1.cell? ⟨b,off+j*3+2,none⟩=some l[j].refs):=fun j h=>by
     obtain ⟨a0,a1,a2⟩:=HX.out j h;exact ⟨(HB1.out.cell hbl).trans a0,(HB1.out.cell hbl).trans a1,(HB1.out.cell hbl).trans a2⟩
    have e0:W1.cell? ⟨w.heap.size,0,none⟩=some (.string xp):=by simp[World.cell?,K1.out]
    have hblk:w.heap.size<W1.heap.size:=lt_of_block K1.out;have HF1:Hid (∀k (hk:k<(l.take N).length),W1.cell? ⟨b,off+k*3,none⟩=some (.string (l.take N)[k].path)∧W1.cell? ⟨b,off+k*3+1,none⟩=some (l.take N)[k].tree∧W1.cell? ⟨b,off+k*3+2,none⟩=some (l.take N)[k].refs):=fun k hk=>by
     have hk2:k<l.length:=by rw[List.length_take]at hk;omega
     rw[List.getElem_take];exact HC1.out k hk2
    go_wp2_with (at_builtin;first
     | (refine wpList_append_own _ rfl (.const (.slice none 0 0)) (.tmp 25) 46 rfl W1.heap.size 76 i76 (.agg #[.string ⟨#[]⟩,.slice none 0 0,.slice none 0 0]) 3 64 Tryz.underlying46 hi hz0 hz1 hz2 rfl (by decide) (.slice none 0 0) 0 [] rfl (World.ownsRow_nil _ _ _ _) ⟨b,off,none⟩ N cap (flatR (l.take N)) rfl (by rw[flatR_length,List.length_take];omega) (cellsR HF1.out) (flatR_one _) (by unfold maxLen;omega) (by omega) (Nat.le_refl _) ?_;intro v2 w2 hown2 hgrow2 hnil2;rw[Nat.zero_add,List.nil_append]at hown2;obtain ⟨a2,c2,rfl,hc2⟩:=own_sl hown2;have HB2:=hide ((Below.refl W1.heap.size W1).grown hgrow2 (Nat.le_refl _) (fun k hk=>by cases hk));have K2:=hide ((HB2.out.block _ hblk).trans K1.out);have g0:w2.cell? ⟨w.heap.size,0,none⟩=some (.string xp):=(by simp[World.cell?,K2.out]);have g1:w2.cell? ⟨w.heap.size,1,none⟩=some (.slice ta tn tc):=(by simp[World.cell?,K2.out]);have g2:w2.cell? ⟨w.heap.size,2,none⟩=some (.slice ra rn rc):=(by simp[World.cell?,K2.out]);have HO2:=hide hown2;have hsz2:=HB2.out.size;clear hown2 hgrow2 hnil2)
     | (refine wpList_append_own _ rfl (.tmp 27) (.tmp 29) 46 rfl W1.heap.size 76 i76 (.agg #[.string ⟨#[]⟩,.slice none 0 0,.slice none 0 0]) 3 64 Tryz.underlying46 hi hz0 hz1 hz2 rfl (by decide) (.slice a2 N c2) N (flatR (l.take N)) rfl (HO2.out.alloc _) ⟨w2.heap.size,0,none⟩ 1 1 [.string xp,.slice ta tn tc,.slice ra rn rc] rfl rfl (cell_three_at _ _ _ _ _ _ rfl) (fun y hy=>by simp at hy;rcases hy with rfl | rfl | rfl <;> rfl) (by unfold maxLen;omega) (by omega) (by simp;omega) ?_;intro v3 w3 hown3 hgrow3 hnil3;obtain ⟨a3,c3,rfl,hc3⟩:=own_sl hown3;have HB3:=hide ((HB2.out.alloc hsz2 _).grown hgrow3 (by simp;omega) (fun k hk=>(HO2.out.lt k hk).1));have HO3:=hide hown3;have hsz3:=HB3.out.size;have HF3:Hid (∀k (hk:k<(l.drop N).length),w3.cell? ⟨b,off+N*3+k*3,none⟩=some (.string (l.drop N)[k].path)∧w3.cell? ⟨b,off+N*3+k*3+1,none⟩=some (l.drop N)[k].tree∧w3.cell? ⟨b,off+N*3+k*3+2,none⟩=some (l.drop N)[k].refs):=dropC HC1.out hj (fun a ha=>HB3.out.cell (by omega));clear hown3 hgrow3 hnil3)
     | (refine wpList_append_own _ rfl (.tmp 31) (.tmp 34) 46 rfl W1.heap.size 76 i76 (.agg #[.string ⟨#[]⟩,.slice none 0 0,.slice none 0 0]) 3 64 Tryz.underlying46 hi hz0 hz1 hz2 rfl (by decide) (.slice a3 (N+1) c3) (N+1) (flatR (l.take N)++[.string xp,.slice ta tn tc,.slice ra rn rc]) rfl HO3.out ⟨b,off+N*3,none⟩ (l.length - N) (cap - N) (flatR (l.drop N)) rfl (by rw[flatR_length,List.length_drop]) (cellsR HF3.out) (flatR_one _) (by unfold maxLen;omega) (by omega) (by omega) ?_;intro v4 w4 hown4 hgrow4 hnil4;have HB4:=hide (HB3.out.grown hgrow4 hsz3 (fun k hk=>(HO3.out.lt k hk).1));have HO4:=hide hown4;clear hown4 hgrow4 hnil4))
    go_ret;refine ⟨_,rfl,?_,HB1.out.trans (HB4.out.mono hsz1)⟩;have:=own_base HO4.out (show w.heap.size≤W1.heap.size by omega);rw[flatR_append,flatR_append,show N+1+(l.length - N)=l.length+1 by omega]at *;exact this
theorem rput_none (x:REn) (w:World) :
  Calls Tryz.prog 41 #[.slice none 0 0,.agg #[.string x.path,x.tree,x.refs]] w fun e w'=>∃v,e=.returned v∧w'.ownsRow w.heap.size 76 3 v 1 (flatR [x])∧Below w.heap.size w w':=by
 obtain ⟨i76,hi,hz0,hz1,hz2⟩:=info_parts Tryz.info76;obtain ⟨xp,ta,tn,tc,ra,rn,rc⟩:=x;unfold REn.tree REn.refs;simp only;have HB0:=hide ((Below.refl _ w).alloc (Nat.le_refl _) (.cells #[.string xp,.slice ta tn tc,.slice ra rn rc] 76));have K0:=hide (block_new w (.cells #[.string xp,.slice ta tn tc,.slice ra rn rc] 76));have hdec:decide ((0:Int)<0)=false:=rfl;go_enter Tryz.func41,Tryz.ntmps41;go_wp2;generalize w.alloc (.cells #[.string xp,.slice ta tn tc,.slice ra rn rc] 76)=W0 at *;refine wp_loop_rounds 1 ?_;rw[rounds_succ];go_wp2
 go_quiet (fail)
 have HB1:Hid (Below w.heap.size w (W0.drewN nq)):=hide (below_drewN HB0.out _);have K1:Hid ((W0.drewN nq).heap[w.heap.size]?=some (.cells #[.string xp,.slice ta tn tc,.slice ra rn rc] 76 (0,0))):=K0.out;generalize W0.drewN nq=W1 at *;have hsz1:=HB1.out.size;have hblk:w.heap.size<W1.heap.size:=lt_of_block K1.out;have g0:W1.cell? ⟨w.heap.size,0,none⟩=some (.string xp):=by simp[World.cell?,K1.out]
 have g1:W1.cell? ⟨w.heap.size,1,none⟩=some (.slice ta tn tc):=by simp[World.cell?,K1.out]
 have g2:W1.cell? ⟨w.heap.size,2,none⟩=some (.slice ra rn rc):=by simp[World.cell?,K1.out]
 go_wp2_with (at_builtin;first
  | (refine wpList_append_own_none rfl (.const (.slice none 0 0)) (.tmp 25) 46 rfl W1.heap.size 76 i76 3 Tryz.underlying46 hi (.slice none 0 0) 0 [] rfl (World.ownsRow_nil _ _ _ _) rfl ?_)
  | (refine wpList_append_own _ rfl (.tmp 27) (.tmp 29) 46 rfl W1.heap.size 76 i76 (.agg #[.string ⟨#[]⟩,.slice none 0 0,.slice none 0 0]) 3 64 Tryz.underlying46 hi hz0 hz1 hz2 rfl (by decide) (.slice none 0 0) 0 [] rfl (World.ownsRow_nil _ _ _ _) ⟨W1.heap.size,0,none⟩ 1 1 [.string xp,.slice ta tn tc,.slice ra rn rc] rfl rfl (cell_three_at _ _ _ _ _ _ rfl) (fun y hy=>by simp at hy;rcases hy with rfl | rfl | rfl <;> rfl) (by unfold maxLen;omega) (by omega) (by simp) ?_;intro v3 w3 hown3 hgrow3 hnil3;obtain ⟨a3,c3,rfl,hc3⟩:=own_sl hown3;have HB3:=hide (((Below.refl _ W1).alloc (Nat.le_refl _) _).grown hgrow3 (by simp) (fun k hk=>by cases hk));have HO3:=hide hown3;clear hown3 hgrow3 hnil3)
  | (refine wpList_append_own_none rfl (.tmp 31) (.tmp 34) 46 rfl W1.heap.size 76 i76 3 Tryz.underlying46 hi _ _ _ rfl HO3.out rfl ?_))
 go_ret;refine ⟨_,rfl,?_,HB1.out.trans (HB3.out.mono hsz1)⟩;have:=own_base HO3.out (show w.heap.size≤W1.heap.size by omega);simpa[flatR,REn.tree,REn.refs] using this
def REAt (w:World) (x:REn) (e:Ent):Prop:=x.path=e.path∧SliceN w x.tree e.nodes∧SliceS w x.refs e.refs
def REsAt (w:World):List REn→List Ent→Prop
 | [],[]=>True
 | x :: l,e :: S=>REAt w x e∧REsAt w l S
 | _,_=>False
theorem REsAt.length {w:World}:∀{l:List REn} {S:List Ent},REsAt w l S→l.length=S.length
 | [],[],_=>rfl
 | _ :: _,_ :: _,h=>by rw[List.length_cons,List.length_cons,h.2.length]
 | [],_ :: _,h=>h.elim
 | _ :: _,[],h=>h.elim
theorem REsAt.mono {w w':World} (h1:∀v ns,SliceN w v ns→SliceN w' v ns) (h2:∀v ss,SliceS w v ss→SliceS w' v ss):∀{l:List REn} {S:List Ent},REsAt w l S→REsAt w' l S
 | [],[],_=>trivial
 | _ :: _,_ :: _,h=>⟨⟨h.1.1,h1 _ _ h.1.2.1,h2 _ _ h.1.2.2⟩,h.2.mono h1 h2⟩
 | [],_ :: _,h=>h.elim
 | _ :: _,[],h=>h.elim
theorem REsAt.get {w:World}:∀{l:List REn} {S:List Ent},REsAt w l S→∀k (h1:k<l.length) (h2:k<S.length),REAt w l[k] S[k]
 | _ :: _,_ :: _,h,0,_,_=>h.1
 | _ :: _,_ :: _,h,k+1,h1,h2=>h.2.get k (by simpa using h1) (by simpa using h2)
 | [],[],_,_,h1,_=>by simp at h1
 | [],_ :: _,h,_,_,_=>h.elim
 | _ :: _,[],h,_,_,_=>h.elim
theorem ba_beq (a b:ByteArray):(a.data.toList == b.data.toList)=decide (a=b):=by
 by_cases h:a=b
 ·subst h;simp
 ·rw[decide_eq_false h];exact beq_eq_false_iff_ne.2 (fun e=>h (WideShapes.bytes_inj e))
theorem REsAt.find {w:World}:∀{l:List REn} {S:List Ent},REsAt w l S→∀p:ByteArray,(findS S p=none∧atI l p=-1)∨∃(k:Nat) (_h1:k<l.length) (h2:k<S.length),atI l p=k∧findS S p=some S[k]
 | [],[],_,p=>.inl ⟨rfl,atI_no (fun k hk=>by simp at hk)⟩
 | x :: l,e :: S,h,p=>by
  have hp:x.path=e.path:=h.1.1
  by_cases he:e.path=p
  ·refine .inr ⟨0,by simp,by simp,?_,?_⟩
   ·exact atI_yes 0 (by simp) (by simpa[hp] using he) (fun k _ hk=>by omega)
   ·unfold findS;rw[List.find?_cons,ba_beq,decide_eq_true he];rfl
  ·have hf:findS (e :: S) p=findS S p:=by unfold findS;rw[List.find?_cons,ba_beq,decide_eq_false he]
   have ha:atN (x :: l) p=atN l p+1:=by unfold atN;rw[List.findIdx_cons,hp,decide_eq_false he];rfl
   rcases h.2.find p with ⟨h1,h2⟩ | ⟨k,h1,h2,h3,h4⟩
   ·refine .inl ⟨by rw[hf,h1],?_⟩;unfold atI at h2 ⊢;rw[ha,List.length_cons]
    by_cases hlt:atN l p<l.length
    ·rw[if_pos hlt]at h2;omega
    ·rw[if_neg (by omega)]
   ·refine .inr ⟨k+1,by simpa using h1,by simpa using h2,?_,by rw[hf,h4];simp⟩;unfold atI at h3 ⊢;rw[ha,List.length_cons]
    by_cases hlt:atN l p<l.length
    ·rw[if_pos hlt]at h3;rw[if_pos (by omega)];omega
    ·rw[if_neg hlt]at h3;omega
 | [],_ :: _,h,_=>h.elim
 | _ :: _,[],h,_=>h.elim
structure RSt (w:World) (b:Nat) (S:List Ent):Prop where
 at_:∃v l,w.heap[b]?=some (.cells #[v] 48 (0,0))∧SliceE w v l∧REsAt w l S∧(S=[]→v=.slice none 0 0)
theorem RSt.below {w w':World} {b:Nat} {S:List Ent} (h:RSt w b S) (hb:Below w.heap.size w w'):RSt w' b S:=by
 obtain ⟨v,l,h1,h2,h3,h4⟩:=h.at_;exact ⟨v,l,(hb.block b (lt_of_block h1)).trans h1,h2.below hb,h3.mono (fun v ns h=>h.below hb) (fun v ss h=>h.below hb),h4⟩
theorem RSt.lt {w:World} {b:Nat} {S:List Ent} (h:RSt w b S):b<w.heap.size:=by
 obtain ⟨v,l,h1,_⟩:=h.at_;exact lt_of_block h1
structure GoodS (S:List Ent):Prop where
 tree:∀e∈S,IsTree e.nodes
 refs:∀e∈S,e.refs.length≤1000000
 few:S.length≤10
theorem REsAt.paths {w:World}:∀{l:List REn} {S:List Ent},REsAt w l S→l.map (·.path)=S.map (·.path)
 | [],[],_=>rfl
 | _ :: _,_ :: _,h=>by rw[List.map_cons,List.map_cons,h.1.1,h.2.paths]
 | [],_ :: _,h=>h.elim
 | _ :: _,[],h=>h.elim
theorem paths_take (l:List REn) (j:Nat) (h:j<l.length):((l.take (j+1)).map (·.path)).map Value.string=((l.take j).map (·.path)).map Value.string++[.string l[j].path]:=by
 rw[List.take_succ_eq_append_getElem h,List.map_append,List.map_append];rfl
theorem rPaths_any (b:Nat) (S:List Ent) (w:World) (h:RSt w b S) (hS:S.length≤1000) :
  Calls Tryz.prog 26 #[.pointer (some ⟨b,0,none⟩)] w fun e w'=>∃v,e=.returned v∧w'.ownsRow w.heap.size 9 1 v S.length ((S.map (·.path)).map Value.string)∧Below w.heap.size w w':=by
 obtain ⟨i9,hi9,h90,h91,h92⟩:=info_parts Tryz.info9;obtain ⟨v,l,h1,h2,h3,h4⟩:=h.at_;have hlen:=h3.length;have hps:=h3.paths;obtain ⟨a,cap,hv,hcap,hc⟩:=h2;subst hv;have c0:w.cell? ⟨b,0,none⟩=some (.slice a l.length cap):=by simp[World.cell?,h1]
 rw[← hlen,← hps]
 by_cases h0:l.length=0
 ·have e0:l=[]:=List.eq_nil_of_length_eq_zero h0;subst e0;simp only[List.length_nil]at c0 ⊢;clear h h3 hc h1 h4;go_enter Tryz.func26,Tryz.ntmps26;go_wp2;refine wp_loop_rounds 1 ?_;rw[rounds_succ];go_wp2;go_ret;exact ⟨_,rfl,World.ownsRow_nil _ _ _ _,Below.refl _ _⟩
 ·obtain ⟨g,off,rfl,hgl,hX⟩:=hc (by omega);have HX:=hide hX;clear hX hc h h3 h1 h4 hps;go_enter Tryz.func26,Tryz.ntmps26;go_wp2
  go_loopw [3,5,11] (fun o _ i w1=>∃(j:Nat) (a1:Option Addr) (cap1:Nat),j≤l.length∧i=.int .i64 j∧o=.slice a1 j cap1∧Hid (Below w.heap.size w w1)∧Hid (w1.ownsRow w.heap.size 9 1 (.slice a1 j cap1) j (((l.take j).map (·.path)).map Value.string))) (fun _ _ i _=>l.length - (intOf i).toNat)
  case atStart=>exact ⟨0,none,0,by omega,rfl,rfl,hide (Below.refl _ _),hide (World.ownsRow_nil _ _ _ _)⟩
  case round=>
   obtain ⟨j,a1,cap1,hj,rfl,rfl,HB,HO⟩:=hrel;have hsz:=HB.out.size
   by_cases hlt:j<l.length
   ·obtain ⟨c1,c2,c3⟩:=HX.out j hlt;rw[← HB.out.cell (p:=⟨g,off+j*3,none⟩) hgl]at c1;rw[← HB.out.cell (p:=⟨g,off+j*3+1,none⟩) hgl]at c2;rw[← HB.out.cell (p:=⟨g,off+j*3+2,none⟩) hgl]at c3;have hltz:(j:Int)<l.length:=by omega
    unfold REn.tree at c2;unfold REn.refs at c3;have HM:=hide (paths_take l j hlt);generalize l[j]=x at c1 c2 c3 HM;obtain ⟨xp,ta,tn,tc,ra,rn,rc⟩:=x;simp only at c1 c2 c3 HM;clear c0
    go_wp2_with (at_builtin;refine wpList_append_own _ rfl (.tmp 15) (.tmp 18) 26 rfl w.heap.size 9 i9 (.string ⟨#[]⟩) 1 16 Tryz.underlying26 hi9 h90 h91 h92 rfl (by decide) _ _ _ rfl ((HO.out.alloc _).alloc _) ⟨wr.heap.size+1,0,none⟩ 1 1 [.string xp] rfl rfl (cell_one_at _ _ _ _ (by simp)) (fun x hx=>by simp at hx;subst hx;rfl) (by unfold maxLen;omega) (by omega) (by simp;omega) ?_;intro v3 w3 hown3 hgrow3 hnil3;have HB3:=hide (((HB.out.alloc hsz _).alloc (by simp;omega) _).grown hgrow3 (by simp;omega) (fun k hk=>(HO.out.lt k hk).1));obtain ⟨g3,cap3,rfl,hcap3⟩:=own_form hown3 (by omega);have HO3:=hide hown3;clear hown3 hgrow3 hnil3)
    go_roundw
    case rel=>exact ⟨j+1,some ⟨g3,0,none⟩,cap3,by omega,by go_num,rfl,HB3,hide (by rw[HM.out];exact HO3.out)⟩
    case measure=>simp[intOf];omega
   ·obtain rfl:j=l.length:=by omega
    have hO:=HO.out;rw[List.take_length]at hO;have HO':=hide hO;clear HO hO c0;go_wp2;go_ret;exact ⟨_,rfl,HO'.out,HB.out⟩
namespace HP
theorem mu_app {S:List Ent} {out:List ByteArray} {r:ByteArray} (hr:∃e∈S,e.path=r) (hno:inL out r=false):mu S (out++[r])<mu S out:=by
 obtain ⟨e,he,rfl⟩:=hr;refine countP_lt (fun x _ hx=>?_) ⟨e,he,by rw[hno];rfl,by rw[inL_app];simp⟩;rw[inL_app,Bool.not_or,Bool.and_eq_true]at hx;exact hx.1
theorem rch_all {S:List Ent} {roots all:List ByteArray} (h1:∀x∈roots,x∈all) (h2:∀x∈all,Rch S roots x) (h3:∀e∈S,e.path∈all→∀r∈e.refs,r∈all) (p:ByteArray):inL all p=rchB S roots p:=by
 cases hc:rchB S roots p with
 | true=>exact inL_iff.2 (Rch.least (Q:=fun p=>p∈all) h1 h3 (rchB_iff.1 hc))
 | false=>
  cases hi:inL all p with
  | false=>rfl
  | true=>
   have:=rchB_iff.2 (h2 p (inL_iff.1 hi));rw[hc]at this;cases this
structure Ga (S:List Ent) (roots all:List ByteArray) (k:Nat):Prop where
 kl:k≤all.length
 r:∀x∈roots,x∈all
 a:∀x∈all,Rch S roots x∧∃e∈S,e.path=x
 c:∀j (hj:j<all.length),j<k→∀e∈S,e.path=all[j]→∀r∈e.refs,r∈all
 l:all.length+mu S all≤roots.length+S.length
theorem Ga.start {S:List Ent} {roots:List ByteArray} (h:∀x∈roots,∃e∈S,e.path=x):Ga S roots roots 0:=by
 refine ⟨Nat.zero_le _,fun _ hx=>hx,fun x hx=>⟨.root hx,h x hx⟩,fun j _ hj=>by omega,?_⟩;have:mu S roots≤S.length:=List.countP_le_length;omega
theorem Ga.app {S:List Ent} {roots all:List ByteArray} {k:Nat} (h:Ga S roots all k) {r:ByteArray} (hr:Rch S roots r) (hS:∃e∈S,e.path=r) (hno:inL all r=false):Ga S roots (all++[r]) k:=by
 have hk:=h.kl;refine ⟨by rw[List.length_append];omega,fun x hx=>List.mem_append_left _ (h.r x hx),fun x hx=>?_,fun j hj hjk e he hp r' hr'=>?_,?_⟩
 ·rcases List.mem_append.1 hx with hx | hx
  ·exact h.a x hx
  ·rw[List.mem_singleton.1 hx];exact ⟨hr,hS⟩
 ·rw[List.getElem_append_left (by omega)]at hp;exact List.mem_append_left _ (h.c j (by omega) hjk e he hp r' hr')
 ·have:=mu_app hS hno;have:=h.l;rw[List.length_append,List.length_singleton];omega
theorem Ga.next {S:List Ent} {roots all:List ByteArray} {k:Nat} (h:Ga S roots all k) (hR:Rising S) {E:Ent} (hE:E∈S) (hk:all[k]?=some E.path) (hall:∀r∈E.refs,r∈all):Ga S roots all (k+1):=by
 obtain ⟨hkl,hke⟩:=List.getElem?_eq_some_iff.1 hk;refine ⟨hkl,h.r,h.a,fun j hj hjk e he hp=>?_,h.l⟩
 by_cases e1:j=k
 ·subst e1;rw[hke]at hp;rw[rise_uniq hR he hE hp];exact hall
 ·exact h.c j hj (by omega) e he hp
theorem Ga.done {S:List Ent} {roots all:List ByteArray} (h:Ga S roots all all.length) (p:ByteArray):inL all p=rchB S roots p:=by
 refine rch_all h.r (fun x hx=>(h.a x hx).1) (fun e he hp r hr=>?_) p;obtain ⟨j,hj,hje⟩:=List.getElem_of_mem hp;exact h.c j hj hj e he hje.symm r hr
theorem next_at {P:ByteArray→Bool} {S:List Ent} {out:List ByteArray} (i:Nat) (hi:i<S.length) (hc:condB P out S[i]=true) (hall:∀j (hj:j<S.length),j<i→condB P out S[j]=false):nextF P S out=some S[i]:=by
 unfold nextF;rw[List.find?_eq_some_iff_getElem];exact ⟨hc,i,hi,rfl,fun j hj=>by rw[hall j (by omega) hj];rfl⟩
theorem next_no {P:ByteArray→Bool} {S:List Ent} {out:List ByteArray} (hall:∀j (hj:j<S.length),condB P out S[j]=false):nextF P S out=none:=next_none fun x hx=>by
 obtain ⟨j,hj,rfl⟩:=List.getElem_of_mem hx;exact hall j hj
def readyUp (out:List ByteArray) (e:Ent) (j:Nat):Bool:=(e.refs.take j).all fun r=>decide (r=e.path) || inL out r
theorem readyUp_zero (out:List ByteArray) (e:Ent):readyUp out e 0=true:=rfl
theorem readyUp_step (out:List ByteArray) (e:Ent) (j:Nat) (hj:j<e.refs.length):readyUp out e (j+1)=(readyUp out e j && (decide (e.refs[j]=e.path) || inL out e.refs[j])):=by
 unfold readyUp;rw[List.take_succ_eq_append_getElem hj,List.all_append];simp
theorem readyUp_all (out:List ByteArray) (e:Ent):readyUp out e e.refs.length=readyB out e:=by
 unfold readyUp readyB;rw[List.take_length]
end HP
theorem REsAt.ins {w:World} {x:REn} {e:Ent} (hx:REAt w x e):∀{l:List REn} {S:List Ent},REsAt w l S→findS S e.path=none→REsAt w (insR l x) (insS e S)
 | [],[],_,_=>⟨hx,trivial⟩
 | [],_ :: _,h,_=>h.elim
 | _ :: _,[],h,_=>h.elim
 | y :: l,f :: S,h,hf=>by
  have hxp:x.path=e.path:=hx.1;have hyp:y.path=f.path:=h.1.1;unfold findS at hf;rw[List.find?_cons]at hf;have hne:(f.path.data.toList == e.path.data.toList)=false:=by
   cases hc:(f.path.data.toList == e.path.data.toList) with
   | false=>rfl
   | true=>rw[hc]at hf;cases hf
  rw[hne]at hf;have hne':=beq_eq_false_iff_ne.1 hne;show REsAt w (insR (y :: l) x) (if bytesBefore e.path.data.toList f.path.data.toList=true then e :: f :: S else f :: insS e S);rw[before_less,← bl_less];cases hb:bl f.path.data.toList e.path.data.toList with
  | true=>
   rw[bl_asym _ _ hb,if_neg (by simp)];have hN:belowN (y :: l) x.path=belowN l x.path+1:=by
    unfold belowN;rw[List.findIdx_cons,hyp,hxp,hb];rfl
   have:insR (y :: l) x=y :: insR l x:=by
    unfold insR;rw[hN,List.take_succ_cons,List.drop_succ_cons];rfl
   rw[this];exact ⟨h.1,REsAt.ins hx h.2 hf⟩
  | false=>
   have hb2:bl e.path.data.toList f.path.data.toList=true:=by
    rcases bl_tri e.path.data.toList f.path.data.toList with h1 | h1 | h1
    ·exact h1
    ·exact absurd h1.symm hne'
    ·rw[hb]at h1;cases h1
   rw[hb2,if_pos rfl];have hN:belowN (y :: l) x.path=0:=by
    unfold belowN;rw[List.findIdx_cons,hyp,hxp,hb];rfl
   have:insR (y :: l) x=x :: y :: l:=by
    unfold insR;rw[hN];rfl
   rw[this];exact ⟨hx,h⟩
theorem own_ents {w:World} {B:Nat} {v:Value} {l:List REn} (h:w.ownsRow B 76 3 v l.length (flatR l)):SliceE w v l:=by
 rcases h.2 with ⟨rfl,h0⟩ | ⟨g,cap,cur,rfl,hB,hg,hn,hm,hs,ht⟩
 ·have e0:l=[]:=List.eq_nil_of_length_eq_zero h0;subst e0;exact ⟨none,0,rfl,Nat.le_refl _,fun h=>by simp at h⟩
 ·refine ⟨some ⟨g,0,none⟩,cap,rfl,hn,fun _=>⟨g,0,rfl,lt_of_block hg,fun j hj=>?_⟩⟩;obtain ⟨f0,f1,f2⟩:=flatR_get l j hj;have hc:=fun k (hk:k<l.length*3)=>h.cellAt k hk
  refine ⟨?_,?_,?_⟩
  ·rw[Nat.zero_add];exact (hc _ (by omega)).trans f0
  ·rw[Nat.zero_add];exact (hc _ (by omega)).trans f1
  ·rw[Nat.zero_add];exact (hc _ (by omega)).trans f2
end Go.Proofs.YticfcjmlphhpgaaGreatDoor
namespace Go.Proofs.YticfcjmlphhpgaaGreatDoor
open Go.RowKit
def regO (n:Nat):Code→Option Code
 | .region m ops d=>if Nat.beq m n then some (.region m ops d) else none
 | .seq a b=>match regO n a with
  | some c=>some c
  | none=>regO n b
 | .block _ c=>regO n c
 | .scope c=>regO n c
 | .loop c=>regO n c
 | .cond _ a b=>match regO n a with
  | some c=>some c
  | none=>regO n b
 | _=>none
theorem reg_then {N:Act→World→Prop} {Q:Exit→Act→World→Prop} (h:∀a w,N a w→Q .normal a w):∀e a w,Exit.then N (fun _ _ _=>False) e a w→Q e a w:=by
 intro e a w h';cases e <;> first | exact h _ _ h' | exact h'.elim
noncomputable def regC (f:Func) (n:Nat):Code:=((f.body.bind (regO n)).getD .skip)
theorem cellB {w w':World} {a:Addr} {u:Value} (h:Below w.heap.size w w') (hc:w.cell? a=some u):w'.cell? a=some u:=(h.cell (World.block_lt_of_cell? _ _ hc)).trans hc
theorem reg20_20 (b q be offe n cv k:Nat) (yp xp:ByteArray) (ta ra a5 a6:Option Addr) (tn tc rn rc M c5 m6 c6:Nat) (D:Bool) (w:World) (hkl:k<n) (c8:w.cell? ⟨b,0,none⟩=some (.slice (some ⟨be,offe,none⟩) n cv)) (e80:w.cell? ⟨be,offe+k*3,none⟩=some (.string yp)) (e81:w.cell? ⟨be,offe+k*3+1,none⟩=some (.slice ta tn tc)) (e82:w.cell? ⟨be,offe+k*3+2,none⟩=some (.slice ra rn rc)) (q80:w.cell? ⟨q,0,none⟩=some (.string xp)) (q81:w.cell? ⟨q,1,none⟩=some (.slice a5 M c5)) (q82:w.cell? ⟨q,2,none⟩=some (.slice a6 m6 c6))
  (cE:∀V:World,Below w.heap.size w V→Calls Tryz.prog 40 #[.agg #[.string yp,.slice ta tn tc,.slice ra rn rc],.agg #[.string xp,.slice a5 M c5,.slice a6 m6 c6]] V fun e w'=>e=.returned (.bool D)∧Below V.heap.size V w') (u1 u2 u3 u4 u5 u6 u7 u8 u9 u10 u11 u14 u15 u16 u17 u18 u19 u20 u21 u22 u23 u24 u25 u26 u27 u28 u29 u30 u31 u32 u33 u34 u35 u36 u37 u38 u39 u40 u41 u42 u43 u44 u45 u46 u47 u48 u49 u50 u51 u52 u53 u54 u55 u56 u57 u58 u59 u60 u61 u62 u63 u64 u65 u66 u67 u68 u69 u70 u71 u72 u73 u74 u75 u76 u77 u78 u79 u80 u81 u82 u83 u84 u85 u86 u87 u88 u89 u90 u91 u92 u93 u94 u95 u96 u97:Value) :
  Code.wp Tryz.prog (regC Tryz.f20 20) (Exit.then (fun a w'=>(∃v73 v74 v75 v76 v77 v78 v79 v80 v81:Value,a=⟨#[.pointer (some ⟨b,0,none⟩),u1,u2,u3,u4,u5,u6,u7,u8,u9,u10,u11,.pointer (some ⟨q,0,none⟩),.int .i64 (k:Nat),u14,u15,u16,u17,u18,u19,u20,u21,u22,u23,u24,u25,u26,u27,u28,u29,u30,u31,u32,u33,u34,u35,u36,u37,u38,u39,u40,u41,u42,u43,u44,u45,u46,u47,u48,u49,u50,u51,u52,u53,u54,u55,u56,u57,u58,u59,u60,u61,u62,u63,u64,u65,u66,u67,u68,u69,u70,u71,u72,v73,v74,v75,v76,v77,v78,v79,v80,v81,.bool (!D),u83,u84,u85,u86,u87,u88,u89,u90,u91,u92,u93,u94,u95,u96,u97],[]⟩)∧Below w.heap.size w w') (fun _ _ _=>False)) ⟨#[.pointer (some ⟨b,0,none⟩),u1,u2,u3,u4,u5,u6,u7,u8,u9,u10,u11,.pointer (some ⟨q,0,none⟩),.int .i64 (k:Nat),u14,u15,u16,u17,u18,u19,u20,u21,u22,u23,u24,u25,u26,u27,u28,u29,u30,u31,u32,u33,u34,u35,u36,u37,u38,u39,u40,u41,u42,u43,u44,u45,u46,u47,u48,u49,u50,u51,u52,u53,u54,u55,u56,u57,u58,u59,u60,u61,u62,u63,u64,u65,u66,u67,u68,u69,u70,u71,u72,u73,u74,u75,u76,u77,u78,u79,u80,u81,u82,u83,u84,u85,u86,u87,u88,u89,u90,u91,u92,u93,u94,u95,u96,u97],[]⟩ w:=by
 unfold regC
 conv=>arg 2;whnf
 have HE:=hide cE;have hkz:(0:Int)≤(k:Int):=by omega
 have hklz:(k:Int)<(n:Int):=by omega
 have HW0:=hide (drewB w);clear cE
 go_region_held3 (fun w'=>w'.cell? ⟨b,0,none⟩=some (.slice (some ⟨be,offe,none⟩) n cv)∧w'.cell? ⟨be,offe+k*3,none⟩=some (.string yp)∧w'.cell? ⟨be,offe+k*3+1,none⟩=some (.slice ta tn tc)∧w'.cell? ⟨be,offe+k*3+2,none⟩=some (.slice ra rn rc)∧w'.cell? ⟨q,0,none⟩=some (.string xp)∧w'.cell? ⟨q,1,none⟩=some (.slice a5 M c5)∧w'.cell? ⟨q,2,none⟩=some (.slice a6 m6 c6)) (go_keep) (first
  | (go_at_call 40;refine (HE.out _ HW0.out).mono ?_;rintro e w9 ⟨rfl,hb9⟩;have HW9:=hide (HW0.out.trans hb9);have g0:=cellB HW9.out c8;have g1:=cellB HW9.out e80;have g2:=cellB HW9.out e81;have g3:=cellB HW9.out e82;have g4:=cellB HW9.out q80;have g5:=cellB HW9.out q81;have g6:=cellB HW9.out q82;clear hb9))
 exact ⟨⟨_,_,_,_,_,_,_,_,_,rfl⟩,HW9.out⟩
theorem reg20_25 (b q n cv:Nat) (av:Option Addr) (xp:ByteArray) (a5 a6:Option Addr) (M c5 m6 c6:Nat) (w:World) (c8:w.cell? ⟨b,0,none⟩=some (.slice av n cv)) (q80:w.cell? ⟨q,0,none⟩=some (.string xp)) (q81:w.cell? ⟨q,1,none⟩=some (.slice a5 M c5)) (q82:w.cell? ⟨q,2,none⟩=some (.slice a6 m6 c6)) (K:Value→World→Prop)
  (cE:∀V:World,Below w.heap.size w V→Calls Tryz.prog 41 #[.slice av n cv,.agg #[.string xp,.slice a5 M c5,.slice a6 m6 c6]] V fun e w'=>∃a' n' c',e=.returned (.slice a' n' c')∧K (.slice a' n' c') w'∧w'.heap[b]?=some (.cells #[.slice av n cv] 48 (0,0))) (u1 u2 u3 u4 u5 u6 u7 u8 u9 u10 u11 u13 u14 u15 u16 u17 u18 u19 u20 u21 u22 u23 u24 u25 u26 u27 u28 u29 u30 u31 u32 u33 u34 u35 u36 u37 u38 u39 u40 u41 u42 u43 u44 u45 u46 u47 u48 u49 u50 u51 u52 u53 u54 u55 u56 u57 u58 u59 u60 u61 u62 u63 u64 u65 u66 u67 u68 u69 u70 u71 u72 u73 u74 u75 u76 u77 u78 u79 u80 u81 u82 u83 u84 u85 u86 u87 u88 u89 u90 u91 u92 u93 u94 u95 u96 u97:Value) :
  Code.wp Tryz.prog (regC Tryz.f20 25) (Exit.then (fun a w'=>(∃v89 v90 v91 v92 v93 v94 v95 v96 v97:Value,a=⟨#[.pointer (some ⟨b,0,none⟩),u1,u2,u3,u4,u5,u6,u7,u8,u9,u10,u11,.pointer (some ⟨q,0,none⟩),u13,u14,u15,u16,u17,u18,u19,u20,u21,u22,u23,u24,u25,u26,u27,u28,u29,u30,u31,u32,u33,u34,u35,u36,u37,u38,u39,u40,u41,u42,u43,u44,u45,u46,u47,u48,u49,u50,u51,u52,u53,u54,u55,u56,u57,u58,u59,u60,u61,u62,u63,u64,u65,u66,u67,u68,u69,u70,u71,u72,u73,u74,u75,u76,u77,u78,u79,u80,u81,u82,u83,u84,u85,u86,u87,u88,v89,v90,v91,v92,v93,v94,v95,v96,v97],[]⟩)∧∃v w9,K v w9∧w'=w9.setCell ⟨b,0,none⟩ v∧w9.heap[b]?=some (.cells #[.slice av n cv] 48 (0,0))) (fun _ _ _=>False)) ⟨#[.pointer (some ⟨b,0,none⟩),u1,u2,u3,u4,u5,u6,u7,u8,u9,u10,u11,.pointer (some ⟨q,0,none⟩),u13,u14,u15,u16,u17,u18,u19,u20,u21,u22,u23,u24,u25,u26,u27,u28,u29,u30,u31,u32,u33,u34,u35,u36,u37,u38,u39,u40,u41,u42,u43,u44,u45,u46,u47,u48,u49,u50,u51,u52,u53,u54,u55,u56,u57,u58,u59,u60,u61,u62,u63,u64,u65,u66,u67,u68,u69,u70,u71,u72,u73,u74,u75,u76,u77,u78,u79,u80,u81,u82,u83,u84,u85,u86,u87,u88,u89,u90,u91,u92,u93,u94,u95,u96,u97],[]⟩ w:=by
 unfold regC
 conv=>arg 2;whnf
 have HE:=hide cE;have HW0:=hide (drewB w);clear cE
 go_region_with (go_at_call 41;refine (HE.out _ HW0.out).mono ?_;rintro e w9 ⟨a9,n9,c9,rfl,hP9,hk9⟩;have HP9:=hide hP9;have c9b:w9.cell? ⟨b,0,none⟩=some (.slice av n cv):=(by simp[World.cell?,hk9]);have f9b:w9.frozen? ⟨b,0,none⟩=false:=(by simp[World.frozen?,hk9]);have HK9:=hide hk9;clear hP9 hk9)
 all_goals exact ⟨⟨_,_,_,_,_,_,_,_,_,rfl⟩,_,w9,HP9.out,rfl,HK9.out⟩
end Go.Proofs.YticfcjmlphhpgaaGreatDoor
