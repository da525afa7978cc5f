import Derived.Test.YticfcjmlphhpgaaGreatDoorA25
import Derived.Test.YticfcjmlphhpgaaGreatDoorA29
import Derived.Deep.CutBlock
set_option maxRecDepth 20000
set_option maxHeartbeats 8000000
namespace Go.Proofs.YticfcjmlphhpgaaGreatDoor
open Go.RowKit
theorem tree_of {ns:List Nd} (h:firstW ns=none):IsTree ns∧(packB ns).size≤50000:=by
 obtain ⟨h1,h2⟩:=tree_small h;have h3:=bulk_tree ns h2;have h4:=packB_bulk ns;exact ⟨IsTree.mk (by rw[← firstW_eq];exact h) ⟨by omega,fun n hn=>by have:=h2 n hn;omega⟩ (by omega),by omega⟩
theorem sub_len {α:Type} [DecidableEq α]:∀(l L:List α),l.Nodup→(∀x∈l,x∈L)→l.length≤L.length
 | [],_,_,_=>Nat.zero_le _
 | x :: r,L,hn,hm=>by
  have hn:=List.nodup_cons.1 hn;have hx:=hm x List.mem_cons_self;have h1:=sub_len r (L.erase x) hn.2 (fun y hy=>(List.mem_erase_of_ne (fun e=>by subst e;exact hn.1 hy)).2 (hm y (List.mem_cons_of_mem _ hy)));have h2:=List.length_erase_of_mem hx;have h3:=List.length_pos_of_mem hx;rw[List.length_cons];omega
theorem riseL_lt {l:List ByteArray} (h:riseL l=true) (j:Nat) (hj:j+1<l.length):bl l[j].data.toList l[j+1].data.toList=true:=by
 cases hn:notAbove l[j+1] l[j] with
 | true=>rw[riseL_no j hj hn]at h;cases h
 | false=>
  rw[notAbove_eq]at hn;simpa using hn
theorem riseL_all {l:List ByteArray} (h:riseL l=true) (i:Nat):∀(n:Nat) (hj:i+n+1<l.length),bl l[i].data.toList l[i+n+1].data.toList=true
 | 0,hj=>riseL_lt h i hj
 | n+1,hj=>bl_trans _ _ _ (riseL_all h i n (by omega)) (riseL_lt h (i+n+1) (by omega))
theorem riseL_nodup {l:List ByteArray} (h:riseL l=true):l.Nodup:=by
 unfold List.Nodup;rw[List.pairwise_iff_getElem];intro i j hi hj hij e;obtain ⟨n,rfl⟩:∃n,j=i+n+1:=⟨j - i - 1,by omega⟩;have:=riseL_all h i n hj;rw[e,bl_irr]at this;cases this
structure OkE (S:List Ent):Prop where
 ok:OkS S
 path:∀e∈S,e.path.size≤12
 few:∀e∈S,e.refs.length≤10
theorem OkE.nil:OkE []:=⟨OkS.nil,(fun e he=>by cases he),fun e he=>by cases he⟩
theorem OkE.put {S:List Ent} (h:OkE S) {x:Ent} (hp:x.path.size≤12) (hw:firstW x.nodes=none) (hr:riseL x.refs=true) (hl:∀r∈x.refs,lackS S x.path r=false):OkE (putS S x).2:=by
 unfold putS;cases hf:findS S x.path with
 | some e=>exact h
 | none=>
  simp only
  by_cases hfull:10≤S.length
  ·rw[if_pos hfull];exact h
  ·rw[if_neg hfull];have hin:∀r∈x.refs,r=x.path∨∃f∈S,f.path=r:=fun r hm=>by
    by_cases e1:r=x.path
    ·exact .inl e1
    ·have:=hl r hm;unfold lackS at this;rw[decide_eq_false e1]at this;exact .inr (findS_not (by simpa using this))
   have hlen:x.refs.length≤10:=by
    have:=sub_len x.refs (x.path :: S.map (·.path)) (riseL_nodup hr) (fun r hm=>by
     rcases hin r hm with rfl | ⟨f,hf,rfl⟩
     ·exact List.mem_cons_self
     ·exact List.mem_cons_of_mem _ (List.mem_map_of_mem hf))
    rw[List.length_cons,List.length_map]at this;omega
   have hsz:∀r∈x.refs,r.size≤12:=fun r hm=>by
    rcases hin r hm with rfl | ⟨f,hf,rfl⟩
    ·exact hp
    ·exact h.path f hf
   have ht:=tree_of hw;refine ⟨⟨⟨fun e he r hm=>?_,by rw[insS_len];omega,fun e he=>?_,fun e he=>?_,Rising.ins h.ok.closed.rise hf⟩,fun e he=>?_,fun e he=>?_⟩,fun e he=>?_,fun e he=>?_⟩
   ·rcases insS_mem he with rfl | he
    ·rcases hin r hm with rfl | ⟨f,hf1,hf2⟩
     ·exact ⟨e,insS_mem' (.inl rfl),rfl⟩
     ·exact ⟨f,insS_mem' (.inr hf1),hf2⟩
    ·obtain ⟨f,hf1,hf2⟩:=h.ok.closed.ref e he r hm;exact ⟨f,insS_mem' (.inr hf1),hf2⟩
   ·rcases insS_mem he with rfl | he
    ·omega
    ·exact h.ok.closed.refs e he
   ·rcases insS_mem he with rfl | he
    ·omega
    ·exact h.ok.closed.path e he
   ·rcases insS_mem he with rfl | he
    ·exact ⟨ht.1,by have:=ht.2;omega⟩
    ·exact h.ok.tree e he
   ·rcases insS_mem he with rfl | he
    ·intro r hm;have:=hsz r hm;omega
    ·exact h.ok.rs e he
   ·rcases insS_mem he with rfl | he
    ·exact hp
    ·exact h.path e he
   ·rcases insS_mem he with rfl | he
    ·exact hlen
    ·exact h.few e he
theorem OkE.insert {S:List Ent} (h:OkE S) (x:Ent):OkE (insertF S x).2:=by
 unfold insertF
 split
 ·exact h
 ·rename_i hp
  split
  ·exact h
  ·rename_i hw
   split
   ·exact h
   ·rename_i hr
    split
    ·exact h
    ·rename_i hany
     refine h.put ?_ ?_ ?_ fun r hm=>?_
     ·have hp':isPathB x.path.data.toList=true:=by
       cases hb:isPathB x.path.data.toList with
       | true=>rfl
       | false=>exact absurd hb hp
      unfold isPathB at hp';simp only[Bool.and_eq_true,decide_eq_true_eq]at hp';have:x.path.data.toList.length=x.path.size:=by simp
      omega
     ·cases hfw:firstW x.nodes with
      | none=>rfl
      | some k=>rw[hfw]at hw;simp at hw
     ·cases hb:riseL x.refs with
      | true=>rfl
      | false=>exact absurd hb hr
     ·cases hb:lackS S x.path r with
      | false=>rfl
      | true=>exact absurd (List.any_eq_true.2 ⟨r,hm,hb⟩) hany
def RImpPost (F:Nat→Prop) (b:Nat) (w:World) (r:Res) (e:Ending) (w':World):Prop:=
 ∃v,e=.returned (.tuple #[v,.int .i64 r.1.2.1,.int .i64 (r.1.2.2:Nat)])∧SliceS w' v r.1.1∧RStF F w' b r.2∧Wrote b w w'
theorem at_in {ce:List REn} {came:List ByteArray} (h:ce.map (·.path)=came) (p:ByteArray):decide ((0:Int)≤atI ce p)=inL came p:=by
 subst h;cases hi:inL (ce.map (·.path)) p with
 | true=>
  unfold inL at hi;rw[List.any_eq_true]at hi;obtain ⟨x,hx,hp⟩:=hi;rw[List.mem_map]at hx;obtain ⟨y,hy,rfl⟩:=hx;have hp:p=y.path:=by simpa using hp
  unfold atI atN;rw[if_pos (List.findIdx_lt_length_of_exists ⟨y,hy,by simp[hp]⟩)];exact decide_eq_true (by omega)
 | false=>
  rw[atI_no]
  ·rfl
  ·intro k hk e;have:inL (ce.map (·.path)) p=true:=inL_yes k (by simpa using hk) (by simp[e]);rw[hi]at this;cases this
theorem rput_le {V:World} {av:Option Addr} {l:List REn} {cv:Nat} (h:SliceE V (.slice av l.length cv) l) (hl:l.length≤1000) (x:REn) (hnil:l=[]→Value.slice av l.length cv=.slice none 0 0) :
  Calls Tryz.prog 41 #[.slice av l.length cv,.agg #[.string x.path,x.tree,x.refs]] V fun e w'=>∃v,e=.returned v∧w'.ownsRow V.heap.size 76 3 v (insR l x).length (flatR (insR l x))∧Below V.heap.size V w':=by
 by_cases h0:l=[]
 ·subst h0;rw[hnil rfl];exact rput_none x V
 ·obtain ⟨a,c,e,hc,hE⟩:=h;have hpos:0<l.length:=List.length_pos_iff.2 h0;obtain ⟨b,off,rfl,hb,hX⟩:=hE hpos;have hlen:(insR l x).length=l.length+1:=by
   unfold insR;simp only[List.length_append,List.length_take,List.length_drop,List.length_singleton];have:belowN l x.path≤l.length:=List.findIdx_le_length;omega
  rw[hlen,e];exact rput_some b off c l x V hb hc hX hl hpos
theorem refW_list:wRef.toList=[114,101,102]:=by rw[ByteArray.toList_eq];rfl
theorem lowR_nil (q:ByteArray):lowR [] q=false:=rfl
theorem lowR_pos {refs:List ByteArray} (h:0<refs.length) (q:ByteArray):lowR refs q=(Op.bytesLess q.toList (refs[refs.length - 1]'(by omega)).toList || q.toList == (refs[refs.length - 1]'(by omega)).toList):=by
 unfold lowR lastS notAbove;rw[decide_eq_true h,List.getD_eq_getElem?_getD,List.getElem?_eq_getElem (by omega)];rfl
theorem lowR_cell {refs:List ByteArray} {w:World} {a:Option Addr} {c:Nat} (h:SliceS w (.slice a refs.length c) refs) (hp:0<refs.length) (q:ByteArray):∃b off y k,a=some ⟨b,off,none⟩∧refs.length=k+1∧w.cell? ⟨b,off+k,none⟩=some (.string y)∧lowR refs q=(Op.bytesLess q.toList y.toList || q.toList == y.toList):=by
 obtain ⟨a',c',e,_,hC⟩:=h;obtain ⟨b1,off1,rfl,hb1,hC1⟩:=hC hp;injection e with e1 _ _
 exact ⟨b1,off1,refs[refs.length - 1]'(by omega),refs.length - 1,e1,by omega,hC1 _ (by omega),lowR_pos hp q⟩
theorem refsN_l (S:Bs) (A:List Ent) (p:ByteArray):∀(f:Nat) (refs:List ByteArray) (st:Ns),(refsN S A p f refs st).1.l=st.l
 | 0,refs,st=>by rw[refsN_zero]
 | f+1,refs,st=>by
  rw[refsN_succ]
  split
  ·unfold rstep;rw[refsN_l S A p f,(failIf_l _ _ _ _).1,(failIf_l _ _ _ _).1,next_l,word_l]
  ·exact word_l _ _ _
theorem entN_of {S:Bs} {d:Dm} {st1 st2 st3 st4 st5 st6 st7 st8:Ns} {p q:ByteArray} {refs:List ByteArray} (h2:nextN S 12 st1=(st2,p)) (h3:st2.failIf (!isPathB p.data.toList) 11 st1.pos=st3) (h4:st3.failIf (inL d.came p) 7 st1.pos=st4) (h5:treeAt S st4=st5) (h6:mustN S wRefs st5=st6) (h7:refsN S d.l p (S.length+1) [] st6=(st7,refs)) (h8:nextN S 8 st7=(st8,q)) :
  entN S d st1=if st8.e=0 then .inl (keepN d st8 p q refs st7.pos) else .inr st8:=by
 unfold entN headI;simp only[h2,h3,h4,h5,h6,h7,h8]
theorem live_tree {S:Bs} {A:List Ent} {st4 st5 st6 st7 st8:Ns} {p q:ByteArray} {refs:List ByteArray} (hle:st4.pos≤S.length) (h5:treeAt S st4=st5) (h6:mustN S wRefs st5=st6) (h7:refsN S A p (S.length+1) [] st6=(st7,refs)) (h8:nextN S 8 st7=(st8,q)) (he:st8.e=0):IsTree st8.l∧(packB st8.l).size≤50000:=by
 have g8:=next_grow (s:=S) (m:=8) (st:=st7) (by rw[h8];exact he);have l8:=next_l S 8 st7;rw[h8]at l8;have e6:st6.e=0:=by
  refine Classical.byContradiction fun hn=>?_
  rw[refsN_dead hn]at h7;injection h7 with h7 _
  rw[h7]at hn;exact hn g8.1
 have l7:=refsN_l S A p (S.length+1) [] st6;rw[h7]at l7;have l6:=must_l S wRefs st5;rw[h6]at l6;have e5:=(must_grow (s:=S) (x:=wRefs) (st:=st5) (by rw[h6];exact e6)).1;have ht:=(treeAt_tree hle (by rw[h5];exact e5)).2;rw[h5]at ht;simp only at l8 l7;rw[l8,l7,l6];exact tree_of ht
theorem put12_none {A:List Ent} {p:ByteArray} {ns:List Nd} {refs:List ByteArray} (h:findS A p=none):decide ((putS A ⟨p,ns,refs⟩).1=12)=false:=by
 unfold putS;simp only[h]
 split <;> rfl
theorem put12_some {A:List Ent} {p:ByteArray} {ns:List Nd} {refs:List ByteArray} {e:Ent} (h:findS A p=some e):decide ((putS A ⟨p,ns,refs⟩).1=12)=!(decide (packB e.nodes=packB ns) && eqL e.refs refs):=by
 unfold putS;simp only[h];cases (decide (packB e.nodes=packB ns) && eqL e.refs refs) <;> rfl
theorem put14_some {A:List Ent} {p:ByteArray} {ns:List Nd} {refs:List ByteArray} {e:Ent} (h:findS A p=some e):decide ((putS A ⟨p,ns,refs⟩).1=14)=false:=by
 unfold putS;simp only[h]
 split <;> rfl
theorem put14_none {A:List Ent} {p:ByteArray} {ns:List Nd} {refs:List ByteArray} (h:findS A p=none) (hl:A.length≤10):decide ((putS A ⟨p,ns,refs⟩).1=14)=decide ((A.length:Int)=10):=by
 unfold putS;simp only[h]
 by_cases h10:10≤A.length
 ·rw[if_pos h10,decide_eq_true (p:=(A.length:Int)=10) (by omega)];rfl
 ·rw[if_neg h10,decide_eq_false (p:=(A.length:Int)=10) (by omega)];rfl
theorem treeAt_mono (S:Bs) (st:Ns):st.pos≤(treeAt S st).pos:=by
 unfold treeAt;exact Nat.le_trans (must_mono S wNar ⟨st.pos,st.e,st.bad,[]⟩) (nodeN_mono S _ _ _ _)
theorem refsN_mono (S:Bs) (A:List Ent) (p:ByteArray):∀(f:Nat) (refs:List ByteArray) (st:Ns),st.pos≤(refsN S A p f refs st).1.pos
 | 0,refs,st=>by rw[refsN_zero];exact Nat.le_refl _
 | f+1,refs,st=>by
  rw[refsN_succ]
  split
  ·unfold rstep;refine Nat.le_trans ?_ (refsN_mono S A p f _ _);rw[(failIf_l _ _ _ _).2,(failIf_l _ _ _ _).2];exact Nat.le_trans (word_mono _ _ _) (next_mono _ _ _)
  ·exact word_mono _ _ _
theorem ent_mono {S:Bs} {d:Dm} {st1 st2 st3 st4 st5 st6 st7 st8:Ns} {p q:ByteArray} {refs:List ByteArray} (h2:nextN S 12 st1=(st2,p)) (h3:st2.failIf (!isPathB p.data.toList) 11 st1.pos=st3) (h4:st3.failIf (inL d.came p) 7 st1.pos=st4) (h5:treeAt S st4=st5) (h6:mustN S wRefs st5=st6) (h7:refsN S d.l p (S.length+1) [] st6=(st7,refs)) (h8:nextN S 8 st7=(st8,q)):st1.pos≤st8.pos:=by
 have g2:=next_mono S 12 st1;rw[h2]at g2;have g3:=(failIf_l st2 (!isPathB p.data.toList) 11 st1.pos).2;rw[h3]at g3;have g4:=(failIf_l st3 (inL d.came p) 7 st1.pos).2;rw[h4]at g4;have g5:=treeAt_mono S st4;rw[h5]at g5;have g6:=must_mono S wRefs st5;rw[h6]at g6;have g7:=refsN_mono S d.l p (S.length+1) [] st6;rw[h7]at g7;have g8:=next_mono S 8 st7;rw[h8]at g8;simp only at g2 g7 g8;omega
structure DOk (d:Dm):Prop where
 tree:d.st.e=0→∀x∈d.l,IsTree x.nodes
 ten:d.st.e=0→d.l.length≤10
 rl:∀x∈d.l,x.refs.length≤50000000
 few:d.l.length≤11
 cl:d.came.length≤d.st.pos
 fl:d.fresh.length≤d.st.pos
def firstR:Code→Option Nat
 | .region m _ _=>some m
 | .seq a _=>firstR a
 | _=>none
def fromO (n:Nat):Code→Option Code
 | .seq a b=>if firstR a == some n then some (.seq a b) else match fromO n a with
  | some c=>some c
  | none=>fromO n b
 | .block _ c=>fromO n c
 | .scope c=>fromO n c
 | .loop c=>fromO n c
 | .cond _ a b=>match fromO n a with
  | some c=>some c
  | none=>fromO n b
 | _=>none
noncomputable def fromC (f:Func) (n:Nat):Code:=((f.body.bind (fromO n)).getD .skip)
def blkO (n:Nat):Code→Option Code
 | .seq a b=>match blkO n a with
  | some c=>some c
  | none=>blkO n b
 | .block m c=>if Nat.beq m n then some (.block m c) else blkO n c
 | .scope c=>blkO n c
 | .loop c=>blkO n c
 | .cond _ a b=>match blkO n a with
  | some c=>some c
  | none=>blkO n b
 | _=>none
noncomputable def blkC (f:Func) (n:Nat):Code:=((f.body.bind (blkO n)).getD .skip)
def KeepPost (F:Nat→Prop) (B R:Nat) (s:ByteArray) (v:Value) (w3:World) (d:Dm) (v8 v9 v10:Value) (w':World):Prop:=
 ∃(a8 a9 a10:Option Addr) (c8 c9 c10:Nat),v8=.slice a8 d.l.length c8∧v9=.slice a9 d.came.length c9∧v10=.slice a10 d.fresh.length c10∧QR B R w' s v d.st∧DC F R w' d.l d.came d.fresh v8 v9 v10∧Below R w3 w'
theorem keep33 (F:Nat→Prop) (b R X B8:Nat) (s:ByteArray) (d:Dm) (st7 st8:Ns) (p q:ByteArray) (refs:List ByteArray) (a8 a9 a10 av ar:Option Addr) (c8 c9 c10 cv cr:Nat) (w3 w11:World) (_hs:s.size≤50000000) (hR3:R<X) (hB8':R+1≤B8) (HXe:Hid (w3.heap.size=X)) (hX11:X<w11.heap.size) (HOK:Hid (DOk d)) (hal0:d.st.e=0) (hcl:d.came.length≤50000000) (hfl:d.fresh.length≤50000000) (hrl:refs.length≤50000000) (HTR:Hid (IsTree st8.l∧(packB st8.l).size≤50000))
  (HQ11:Hid (QR B8 R w11 s (.slice av st8.l.length cv) st8)) (HF11:Hid (FRX R X w3 w11)) (HX11:Hid (w11.heap[X]?=some (.cells #[.string p,.slice none 0 0,.slice ar refs.length cr] 76 (0,0)))) (HO11:Hid (w11.ownsRow (X+1) 9 1 (.slice ar refs.length cr) refs.length (refs.map Value.string))) (HDC3:Hid (DC F R w3 d.l d.came d.fresh (.slice a8 d.l.length c8) (.slice a9 d.came.length c9) (.slice a10 d.fresh.length c10))) (u2 u3 u4 u5 u6 u13 u14 u15 u17 u18 u19 u20 u21 u22 u23 u24 u25 u26 u27 u28 u29 u30 u31 u32 u33 u34 u35 u36 u37 u38 u39 u40 u41 u42 u43 u44 u45 u46 u47 u48 u49 u50 u51 u52 u53 u54 u55 u56 u57 u58 u59 u60 u61 u62 u63 u64 u65 u66 u67 u68 u69 u70 u71 u72 u73 u74 u75 u76 u77 u78 u79 u80 u81 u82 u83 u84 u85 u86 u87 u88 u89 u90 u91 u92 u93 u94 u95 u96 u97 u98 u99 u100 u101 u102 u103 u104 u105 u106 u107 u108 u109 u110 u111 u112 u113 u114 u115 u116 u117 u118 u119 u120 u121 u122 u123 u124 u125 u126 u127 u128 u129 u130 u131 u132 u133 u134 u135 u136 u137 u138 u139 u140 u141 u142 u143 u144 u145 u146 u147 u148 u149 u150 u151 u152 u153 u154 u155 u156 u157 u158 u159 u160 u161 u162 u163 u164 u165 u166 u167 u168 u169 u170 u171 u172 u173 u174 u175 u176 u177 u178 u179 u180 u181 u182 u183 u184 u185 u186 u187 u188 u189 u190 u191 u192 u193 u194 u195 u196 u197 u198 u199 u200 u201:Value) (Q:Exit→Act→World→Prop) (hQ:Hid (∀(w':World) (v8 v9 v10 v17 v27 v28 v29 v30 v31 v32 v33 v34 v35 v36 v37 v38 v39 v40 v41 v42 v43 v44 v45 v46 v47 v48 v49 v50 v51 v52 v53 v54 v55 v56 v57 v58 v59 v60 v61 v62 v63 v64 v65 v66 v67 v68 v69 v70 v71 v72 v73 v74 v75 v76 v77 v78 v79 v80 v81 v82 v83 v84 v85 v86 v87 v88 v89 v90 v91 v92 v93 v94 v95 v96 v97 v98 v99 v100 v101 v102 v103 v104 v105 v106 v107 v108 v109 v110 v111 v112 v113 v114 v115 v116 v117 v118 v119 v120 v121 v122 v123 v124 v125 v126 v127 v128 v129 v130 v131 v132 v133 v134 v135 v136 v137 v138 v139 v140 v141 v142 v143 v144 v145 v146 v147 v148 v149 v150 v151 v152 v153 v154 v155 v156 v157 v158 v159 v160 v161 v162 v163 v164 v165 v166 v167 v168 v169 v170:Value),KeepPost F B8 R s (.slice av st8.l.length cv) w3 (keepN d st8 p q refs st7.pos) v8 v9 v10 w'→Q .normal ⟨#[.pointer (some ⟨b,0,none⟩),.string s,u2,u3,u4,u5,u6,.pointer (some ⟨R,0,none⟩),v8,v9,v10,.int .i64 (st7.pos:Nat),.pointer (some ⟨X,0,none⟩),u13,u14,u15,.string q,v17,u18,u19,u20,u21,u22,u23,u24,u25,u26,v27,v28,v29,v30,v31,v32,v33,v34,v35,v36,v37,v38,v39,v40,v41,v42,v43,v44,v45,v46,v47,v48,v49,v50,v51,v52,v53,v54,v55,v56,v57,v58,v59,v60,v61,v62,v63,v64,v65,v66,v67,v68,v69,v70,v71,v72,v73,v74,v75,v76,v77,v78,v79,v80,v81,v82,v83,v84,v85,v86,v87,v88,v89,v90,v91,v92,v93,v94,v95,v96,v97,v98,v99,v100,v101,v102,v103,v104,v105,v106,v107,v108,v109,v110,v111,v112,v113,v114,v115,v116,v117,v118,v119,v120,v121,v122,v123,v124,v125,v126,v127,v128,v129,v130,v131,v132,v133,v134,v135,v136,v137,v138,v139,v140,v141,v142,v143,v144,v145,v146,v147,v148,v149,v150,v151,v152,v153,v154,v155,v156,v157,v158,v159,v160,v161,v162,v163,v164,v165,v166,v167,v168,v169,v170,u171,u172,u173,u174,u175,u176,u177,u178,u179,u180,u181,u182,u183,u184,u185,u186,u187,u188,u189,u190,u191,u192,u193,u194,u195,u196,u197,u198,u199,u200,u201],[]⟩ w')) :
  Code.wp Tryz.prog (fromC Tryz.f33 27) Q ⟨#[.pointer (some ⟨b,0,none⟩),.string s,u2,u3,u4,u5,u6,.pointer (some ⟨R,0,none⟩),.slice a8 d.l.length c8,.slice a9 d.came.length c9,.slice a10 d.fresh.length c10,.int .i64 (st7.pos:Nat),.pointer (some ⟨X,0,none⟩),u13,u14,u15,.string q,u17,u18,u19,u20,u21,u22,u23,u24,u25,u26,u27,u28,u29,u30,u31,u32,u33,u34,u35,u36,u37,u38,u39,u40,u41,u42,u43,u44,u45,u46,u47,u48,u49,u50,u51,u52,u53,u54,u55,u56,u57,u58,u59,u60,u61,u62,u63,u64,u65,u66,u67,u68,u69,u70,u71,u72,u73,u74,u75,u76,u77,u78,u79,u80,u81,u82,u83,u84,u85,u86,u87,u88,u89,u90,u91,u92,u93,u94,u95,u96,u97,u98,u99,u100,u101,u102,u103,u104,u105,u106,u107,u108,u109,u110,u111,u112,u113,u114,u115,u116,u117,u118,u119,u120,u121,u122,u123,u124,u125,u126,u127,u128,u129,u130,u131,u132,u133,u134,u135,u136,u137,u138,u139,u140,u141,u142,u143,u144,u145,u146,u147,u148,u149,u150,u151,u152,u153,u154,u155,u156,u157,u158,u159,u160,u161,u162,u163,u164,u165,u166,u167,u168,u169,u170,u171,u172,u173,u174,u175,u176,u177,u178,u179,u180,u181,u182,u183,u184,u185,u186,u187,u188,u189,u190,u191,u192,u193,u194,u195,u196,u197,u198,u199,u200,u201],[]⟩ w11:=by
 unfold fromC
 conv=>arg 2;whnf
 have c4:w11.cell? ⟨R,4,none⟩=some (.slice av st8.l.length cv):=by simp[World.cell?,HQ11.out.blk]
 have x1:w11.cell? ⟨X,1,none⟩=some (.slice none 0 0):=by simp[World.cell?,HX11.out]
 have f1:w11.frozen? ⟨X,1,none⟩=false:=by simp[World.frozen?,HX11.out]
 have c2:w11.cell? ⟨R,2,none⟩=some (.int .i64 st8.e):=by simp[World.cell?,HQ11.out.blk]
 have hle8:=HQ11.out.le;have hrl8:=HQ11.out.lt;have HB3:Hid True:=hide trivial;obtain ⟨i9,hi9,h90,h91,h92⟩:=info_parts Tryz.info9
 go_upto_region 28 with fail
 have HX12:Hid ((w11.setCell ⟨X,1,none⟩ (.slice av st8.l.length cv)).heap[X]?=some (.cells #[.string p,.slice av st8.l.length cv,.slice ar refs.length cr] 76 (0,0))):=hide (block_set HX11.out 1 (.slice av st8.l.length cv));have hK12:KT [76] w11 (w11.setCell ⟨X,1,none⟩ (.slice av st8.l.length cv)):=(KT.refl [76] w11).set HX11.out (by decide) 1 _;have HQ12:=hide (HQ11.out.kt (by rw[size_set];omega) hK12 (by decide) (by decide));have HF12:=hide (HF11.out.set 1 (.slice av st8.l.length cv) (by omega));have HO12:=hide (own_same HO11.out fun g hg=>Below.heap_setCell w11 ⟨X,1,none⟩ (.slice av st8.l.length cv) g (by have:=own_ge HO11.out hg;show g≠X;omega));have hs12:w11.heap.size=(w11.setCell ⟨X,1,none⟩ (.slice av st8.l.length cv)).heap.size:=(size_set _ _ _).symm;clear HQ11 HF11 HX11 HO11 c4 x1 f1 c2 hK12;generalize w11.setCell ⟨X,1,none⟩ (.slice av st8.l.length cv)=w12 at HX12 HQ12 HF12 HO12 hs12 ⊢;have cP:=hide (refPack_tree (.slice av st8.l.length cv) st8.l w12 (own_nodes HQ12.out.nd).1 HTR.out.1);have x1:w12.cell? ⟨X,1,none⟩=some (.slice av st8.l.length cv):=by simp[World.cell?,HX12.out]
 obtain ⟨sm,hsm⟩:∃sm,sumO (packB st8.l)=sm:=⟨_,rfl⟩;have HSM:=hide hsm;obtain ⟨pk,hpk⟩:∃pk,packB st8.l=pk:=⟨_,rfl⟩;unfold sumO at hsm;rw[hpk]at hsm cP;have hpks:pk.size≤50000:=by rw[← hpk];exact HTR.out.2
 have HPK:=hide hpk;have HSM2:=hide hsm;clear hpk hsm
 go_cut [125] from 27 to 170 (fun x wd=>x=.bool (!decide (q=sm))∧Hid (Below w12.heap.size w12 wd))
 case first=>
  by_cases hq:q=sm
  ·have hbq:(q.toList == sm.toList)=true:=by rw[hq];simp
   have HQE:=hide (show (!decide (q=sm))=false by rw[decide_eq_true hq];rfl);clear HQ12 HF12 HX12 HO12 HDC3 HB3 hq
   go_wp2_with fail
   refine cP.out.mono ?_;rintro e w13 ⟨rfl,hb13⟩;have cS:=hide (Sm.ref_any pk w13 (by unfold maxLen;omega));rw[HSM2.out]at cS;have HB13:=hide hb13;clear cP hb13
   go_wp2_with fail
   refine cS.out.mono ?_;rintro e w14 ⟨rfl,hb14⟩;have HB14:=hide (HB13.out.trans (hb14.mono HB13.out.size));clear cS hb14;go_wp2;go_meet;exact ⟨by rw[HQE.out],HB14⟩
  ·have hbq:=eqB_false hq;have HQE:=hide (show (!decide (q=sm))=true by rw[decide_eq_false hq];rfl);clear HQ12 HF12 HX12 HO12 HDC3 HB3 hq
   go_wp2_with fail
   refine cP.out.mono ?_;rintro e w13 ⟨rfl,hb13⟩;have cS:=hide (Sm.ref_any pk w13 (by unfold maxLen;omega));rw[HSM2.out]at cS;have HB13:=hide hb13;clear cP hb13
   go_wp2_with fail
   refine cS.out.mono ?_;rintro e w14 ⟨rfl,hb14⟩;have HB14:=hide (HB13.out.trans (hb14.mono HB13.out.size));clear cS hb14;go_wp2;go_meet;exact ⟨by rw[HQE.out],HB14⟩
 case rest=>
 obtain ⟨hx125,hb'⟩:=hcut;subst hx125;have hb:=hb'.out;have HQ14:=hide (HQ12.out.new hb);have HF14:=hide (HF12.out.trans (FRX.new hb (by omega)));have HX14:=hide ((hb.block X (by omega)).trans HX12.out);have HO14:=hide (own_same HO12.out fun g hg=>hb.block g (own_ge HO12.out hg).2);have hs14:=hb.size;obtain ⟨w14,hw14⟩:∃w14,w14=wc:=⟨_,rfl⟩;subst hw14;clear cP hb hb' HQ12 HF12 HX12 HO12 x1
 go_upto_if 125 with fail
 go_cut [] from 27 to 170 (fun wd=>Hid (QP B8 R w14 s (.slice av st8.l.length cv) (st8.failIf (!decide (q=sm)) 16 st7.pos) wd))
 case first=>
  generalize hbq:(!decide (q=sm))=bq;have HBQ:=hide hbq;clear hbq;cases bq with
  | false=>
   have HM:=hide HQ14.out.same;clear HQ14 HF14 HX14 HO14 HDC3 HB3;go_wp2;go_meet;exact hide (by rw[HBQ.out];exact HM.out)
  | true=>
   have cF:=hide (rfail_any HQ14.out 16 st7.pos);clear HQ14 HF14 HX14 HO14 HDC3 HB3
   go_wp2_with fail
   refine cF.out.mono ?_;rintro e w15 ⟨⟨r15,rfl⟩,hq15⟩;go_wp2;go_meet;exact hide (by rw[HBQ.out];exact hq15)
 case rest=>
  have hq15:=hcut.out;have HQ15:=hide hq15.1;have HF15:=hide (HF14.out.trans (FRX.qp hq15 (by omega)));have HX15:=hide (hq15.2.2 _ _ _ _ HX14.out (by decide));have HO15:=hide (own_same HO14.out fun g hg=>by
   obtain ⟨c,fz,hc⟩:=own_kind HO14.out g hg;exact (hq15.2.2 _ _ _ _ hc (by decide)).trans hc.symm)
  have hs15:=hq15.2.1.size;obtain ⟨st9,hst9⟩:∃st9,st8.failIf (!decide (q=sm)) 16 st7.pos=st9:=⟨_,rfl⟩;rw[hst9]at HQ15;have HST9:=hide hst9;obtain ⟨w15,hw15⟩:∃w15,w15=wc:=⟨_,rfl⟩;subst hw15;clear hcut HQ14 HF14 HX14 HO14 hq15 hst9;have HDC15:=hide (HDC3.out.frx (by rw[HXe.out];exact HF15.out));obtain ⟨le,hSE,hRE,_⟩:=HDC15.out.l;have hll:=hRE.length;have hten:=HOK.out.ten hal0;have cA:=hide (at_any (.slice a8 d.l.length c8) le p w15 hSE (by omega));have hfind:=hRE.find p;obtain ⟨z,hz⟩:∃z,atI le p=z:=⟨_,rfl⟩;rw[hz]at cA hfind;have HFi:=hide hfind;have HSE:=hide hSE;have HRE:=hide hRE;have x0:w15.cell? ⟨X,0,none⟩=some (.string p):=by simp[World.cell?,HX15.out]
  clear hSE hRE hfind hz HDC15
  go_upto_region 31 with fail
  refine cA.out.mono ?_;rintro e w16 ⟨rfl,hb16⟩;have HQ16:=hide (HQ15.out.new hb16);have HF16:=hide (HF15.out.trans (FRX.new hb16 (by omega)));have HX16:=hide ((hb16.block X (by omega)).trans HX15.out);have HO16:=hide (own_same HO15.out fun g hg=>hb16.block g (own_ge HO15.out hg).2);have HSE16:=hide (HSE.out.below hb16);have HRE16:=hide (HRE.out.mono (fun v ns hs=>hs.below hb16) (fun v ss hs=>hs.below hb16));have hs16:=hb16.size;clear cA hb16 HQ15 HF15 HX15 HO15 x0 HSE HRE
  go_upto_region 31 with fail
  go_cut [143] from 27 to 170 (fun x wd=>x=.bool (decide ((putS d.l ⟨p,st8.l,refs⟩).1=12))∧Hid (Below w16.heap.size w16 wd))
  case first=>
   rcases HFi.out with ⟨hf1,hf2⟩ | ⟨k,hk1,hk2,hf1,hf2⟩
   ·subst hf2;have HP:=hide (put12_none (ns:=st8.l) (refs:=refs) hf1);clear HQ16 HF16 HX16 HO16 HDC3 HB3 HSE16 HRE16 HFi hf1;go_wp2
    go_quiet (fail)
    go_wp2;go_meet;exact ⟨by rw[HP.out],hide (below_drewN (Below.refl _ _) _)⟩
   ·subst hf1;have HP:=hide (put12_some (ns:=st8.l) (refs:=refs) hf2);obtain ⟨_,hy1,hy2⟩:=HRE16.out.get k hk1 hk2;have htk:=HOK.out.tree hal0 d.l[k] (List.getElem_mem _);have hrk:=HOK.out.rl d.l[k] (List.getElem_mem _);have hsx:=(own_nodes HQ16.out.nd).1;have hsl9:st9.l=st8.l:=by rw[← HST9.out];exact (failIf_l _ _ _ _).1
    rw[hsl9]at hsx;have hsr:=own_strs HO16.out;obtain ⟨av',cv',ev,_,hcE⟩:=HSE16.out;obtain ⟨be,offe,hbe,hbl,hE⟩:=hcE (by omega);injection ev with ev1 _ _
    subst ev1;subst hbe;obtain ⟨e0,e1,e2⟩:=hE k hk1;have q0:w16.cell? ⟨X,0,none⟩=some (.string p):=by simp[World.cell?,HX16.out]
    have q1:w16.cell? ⟨X,1,none⟩=some (.slice av st8.l.length cv):=by simp[World.cell?,HX16.out]
    have q2:w16.cell? ⟨X,2,none⟩=some (.slice ar refs.length cr):=by simp[World.cell?,HX16.out]
    have cE:∀V:World,Below w16.heap.size w16 V→Calls Tryz.prog 40 #[.agg #[.string le[k].path,le[k].tree,le[k].refs],.agg #[.string p,.slice av st8.l.length cv,.slice ar refs.length cr]] V fun e w'=>e=.returned (.bool (decide (packB d.l[k].nodes=packB st8.l) && eqL d.l[k].refs refs))∧Below V.heap.size V w':=fun V hV=>
     rsame_any le[k] ⟨p,av,st8.l.length,cv,ar,refs.length,cr⟩ d.l[k].nodes st8.l d.l[k].refs refs V (hy1.below hV) (hsx.below hV) htk HTR.out.1 (hy2.below hV) (hsr.below hV) (by omega) (by omega)
    clear hE hcE hy1 hy2 htk hrk hsx hsr hf2 HSE16 HRE16 HFi HQ16 HF16 HX16 HO16 HDC3 HB3;have hkl:k<d.l.length:=hk2;generalize le[k]=y at e0 e1 e2 cE;obtain ⟨yp,ta,tn,tc,ra,rn,rc⟩:=y;unfold REn.tree at e1 cE;unfold REn.refs at e2 cE;simp only at e0 e1 e2 cE;generalize (decide (packB d.l[k].nodes=packB st8.l) && eqL d.l[k].refs refs)=Dq at cE HP;refine wp_mono (reg33_31 X be offe d.l.length c8 k yp p ta ra av ar tn tc rn rc st8.l.length cv refs.length cr Dq w16 hkl e0 e1 e2 q0 q1 q2 cE _ _ _ _ _ _ _ _ _ _ _ _ _ _ _ _ _ _ _ _ _ _ _ _ _ _ _ _ _ _ _ _ _ _ _ _ _ _ _ _ _ _ _ _ _ _ _ _ _ _ _ _ _ _ _ _ _ _ _ _ _ _ _ _ _ _ _ _ _ _ _ _ _ _ _ _ _ _ _ _ _ _ _ _ _ _ _ _ _ _ _ _ _ _ _ _ _ _ _ _ _ _ _ _ _ _ _ _ _ _ _ _ _ _ _ _ _ _ _ _ _ _ _ _ _ _ _ _ _ _ _ _ _ _ _ _ _ _ _ _ _ _ _ _ _ _ _ _ _ _ _ _ _ _ _ _ _ _ _ _ _ _ _ _ _ _ _ _ _ _ _ _ _ _ _ _ _ _ _ _ _ _ _ _ _ _ _ _ _ _ _ _ _ _ _ _ _ _ _) (reg_then ?_);rintro a w17 ⟨⟨v133,v134,v135,v136,v137,v138,v139,v140,v141,v142,rfl⟩,hb17⟩;have HB17:=hide hb17;clear hb17 e0 e1 e2 q0 q1 q2 cE;go_wp2;go_meet;exact ⟨by rw[HP.out],HB17⟩
  case rest=>
  obtain ⟨hx143,hb'⟩:=hcut;subst hx143;have hb:=hb'.out;have HQ17:=hide (HQ16.out.new hb);have HF17:=hide (HF16.out.trans (FRX.new hb (by omega)));have HX17:=hide ((hb.block X (by omega)).trans HX16.out);have HO17:=hide (own_same HO16.out fun g hg=>hb.block g (own_ge HO16.out hg).2);have hs17:=hb.size;obtain ⟨w17,hw17⟩:∃w17,w17=wc:=⟨_,rfl⟩;subst hw17;clear hb hb' HQ16 HF16 HX16 HO16 HSE16 HRE16
  go_upto_if 143 with fail
  go_cut [] from 27 to 170 (fun wd=>Hid (QP B8 R w17 s (.slice av st8.l.length cv) (st9.failIf (decide ((putS d.l ⟨p,st8.l,refs⟩).1=12)) 12 st7.pos) wd))
  case first=>
   generalize hbq:(decide ((putS d.l ⟨p,st8.l,refs⟩).1=12))=bq;have HBQ:=hide hbq;clear hbq;cases bq with
   | false=>
    have HM:=hide HQ17.out.same;clear HQ17 HF17 HX17 HO17 HDC3 HB3;go_wp2;go_meet;exact hide (by rw[HBQ.out];exact HM.out)
   | true=>
    have cF:=hide (rfail_any HQ17.out 12 st7.pos);clear HQ17 HF17 HX17 HO17 HDC3 HB3
    go_wp2_with fail
    refine cF.out.mono ?_;rintro e wx ⟨⟨rx,rfl⟩,hqx⟩;go_wp2;go_meet;exact hide (by rw[HBQ.out];exact hqx)
  case rest=>
  have hqx:=hcut.out;have HQ18:=hide hqx.1;have HF18:=hide (HF17.out.trans (FRX.qp hqx (by omega)));have HX18:=hide (hqx.2.2 _ _ _ _ HX17.out (by decide));have HO18:=hide (own_same HO17.out fun g hg=>by
   obtain ⟨c,fz,hc⟩:=own_kind HO17.out g hg;exact (hqx.2.2 _ _ _ _ hc (by decide)).trans hc.symm)
  have hs18:=hqx.2.1.size;obtain ⟨st10,hst10⟩:∃st10,st9.failIf (decide ((putS d.l ⟨p,st8.l,refs⟩).1=12)) 12 st7.pos=st10:=⟨_,rfl⟩;rw[hst10]at HQ18;have HST10:=hide hst10;obtain ⟨w18,hwx⟩:∃w18,w18=wc:=⟨_,rfl⟩;subst hwx;clear hcut HQ17 HF17 HX17 HO17 hqx hst10
  go_upto_region 33 with fail
  go_cut [153] from 27 to 170 (fun x wd=>x=.bool (decide ((putS d.l ⟨p,st8.l,refs⟩).1=14))∧w18=wd)
  case first=>
   rcases HFi.out with ⟨hf1,hf2⟩ | ⟨k,hk1,hk2,hf1,hf2⟩
   ·subst hf2;have HP:=hide (put14_none (ns:=st8.l) (refs:=refs) hf1 hten);clear HQ18 HF18 HX18 HO18 HDC3 HB3 HFi hf1;go_wp2;go_meet;exact ⟨by rw[HP.out];rfl,rfl⟩
   ·subst hf1;have HP:=hide (put14_some (ns:=st8.l) (refs:=refs) hf2);have hkz:¬ (k:Int)<0:=by omega
    clear HQ18 HF18 HX18 HO18 HDC3 HB3 HFi hf2;go_wp2;go_meet;exact ⟨by rw[HP.out],rfl⟩
  case rest=>
  obtain ⟨hx153,hw18⟩:=hcut;subst hx153 hw18
  go_upto_if 153 with fail
  go_cut [] from 27 to 170 (fun wd=>Hid (QP B8 R w18 s (.slice av st8.l.length cv) (st10.failIf (decide ((putS d.l ⟨p,st8.l,refs⟩).1=14)) 14 st7.pos) wd))
  case first=>
   generalize hbq:(decide ((putS d.l ⟨p,st8.l,refs⟩).1=14))=bq;have HBQ:=hide hbq;clear hbq;cases bq with
   | false=>
    have HM:=hide HQ18.out.same;clear HQ18 HF18 HX18 HO18 HDC3 HB3;go_wp2;go_meet;exact hide (by rw[HBQ.out];exact HM.out)
   | true=>
    have cF:=hide (rfail_any HQ18.out 14 st7.pos);clear HQ18 HF18 HX18 HO18 HDC3 HB3
    go_wp2_with fail
    refine cF.out.mono ?_;rintro e wx ⟨⟨rx,rfl⟩,hqx⟩;go_wp2;go_meet;exact hide (by rw[HBQ.out];exact hqx)
  case rest=>
  have hqx:=hcut.out;have HQ19:=hide hqx.1;have HF19:=hide (HF18.out.trans (FRX.qp hqx (by omega)));have HX19:=hide (hqx.2.2 _ _ _ _ HX18.out (by decide));have HO19:=hide (own_same HO18.out fun g hg=>by
   obtain ⟨c,fz,hc⟩:=own_kind HO18.out g hg;exact (hqx.2.2 _ _ _ _ hc (by decide)).trans hc.symm)
  have hs19:=hqx.2.1.size;obtain ⟨st11,hst11⟩:∃st11,st10.failIf (decide ((putS d.l ⟨p,st8.l,refs⟩).1=14)) 14 st7.pos=st11:=⟨_,rfl⟩;rw[hst11]at HQ19;have HST11:=hide hst11;obtain ⟨w19,hwx⟩:∃w19,w19=wc:=⟨_,rfl⟩;subst hwx;clear hcut HQ18 HF18 HX18 HO18 hqx hst11;have hp9:=(failIf_l st8 (!decide (q=sm)) 16 st7.pos);rw[HST9.out]at hp9;have hp10:=(failIf_l st9 (decide ((putS d.l ⟨p,st8.l,refs⟩).1=12)) 12 st7.pos);rw[HST10.out]at hp10;have hp11:=(failIf_l st10 (decide ((putS d.l ⟨p,st8.l,refs⟩).1=14)) 14 st7.pos);rw[HST11.out]at hp11;have hkeep:keepN d st8 p q refs st7.pos=⟨st11,if (findS d.l p).isNone=true then insS ⟨p,st8.l,refs⟩ d.l else d.l,d.came++[p],if (findS d.l p).isNone=true then d.fresh++[p] else d.fresh⟩:=by
   unfold keepN;rw[HSM.out,HST9.out,HST10.out,HST11.out]
  have HK:=hide hkeep;have hHDC19:=HDC3.out.frx (w':=w19) (by rw[HXe.out];exact HF19.out);have HDC19:=hide hHDC19;have HB19:=hide (HF19.out.lo);have HV9:Hid (∀k,(Value.slice a9 d.came.length c9).ownBlock=some k→k<X):=hide fun k hk=>by
   obtain ⟨ce3,hce3,_⟩:=HDC3.out.ca;have:=own_ge hce3 hk;have:=HXe.out;omega
  have HV10:Hid (∀k,(Value.slice a10 d.fresh.length c10).ownBlock=some k→k<X):=hide fun k hk=>by
   have:=own_ge HDC3.out.fr hk;have:=HXe.out;omega
  clear hkeep hHDC19 HF19 HDC3 HB3;obtain ⟨ce,hce,hcp⟩:=HDC19.out.ca;have hcel:ce.length=d.came.length:=by rw[← hcp,List.length_map]
  have HCE:=hide hce;have HCP:=hide hcp;clear hce hcp;have x0:w19.cell? ⟨X,0,none⟩=some (.string p):=by simp[World.cell?,HX19.out]
  have x1:w19.cell? ⟨X,1,none⟩=some (.slice av st8.l.length cv):=by simp[World.cell?,HX19.out]
  have x2:w19.cell? ⟨X,2,none⟩=some (.slice ar refs.length cr):=by simp[World.cell?,HX19.out]
  have hX19:=lt_of_block HX19.out;obtain ⟨i76,hi76,hz0,hz1,hz2⟩:=info_parts Tryz.info76
  go_upto_if 162 with (at_builtin;refine wpList_append_own_at _ rfl (.tmp 157) (.tmp 159) 46 rfl (R+1) 76 i76 (.agg #[.string ⟨#[]⟩,.slice none 0 0,.slice none 0 0]) 3 64 Tryz.underlying46 hi76 hz0 hz1 hz2 rfl (by decide) (.slice a9 d.came.length c9) ce.length (flatR ce) rfl (HCE.out.alloc _) ⟨w19.heap.size,0,none⟩ 1 1 [.string p,.slice av st8.l.length cv,.slice ar refs.length cr] rfl rfl (cell_three_at _ _ _ _ _ _ rfl) (fun y hy=>by simp at hy;rcases hy with rfl | rfl | rfl <;> rfl) (by unfold maxLen;omega) (by omega) (by simp;omega) ?_;intro v20 w20 hown20 hgrow20 hnil20 hat20;obtain ⟨a20,c20,rfl,_⟩:=own_sl hown20)
  have hag:=(Below.refl _ w19).alloc (Nat.le_refl _) (.cells #[.string p,.slice av st8.l.length cv,.slice ar refs.length cr] 76);have hs20:w19.heap.size+1≤w20.heap.size:=by have:=hgrow20.size;simpa using this
  have hK20:KT [76] w19 w20:=((KT.refl [76] w19).alloc _).grown (HCE.out.alloc _) hgrow20 (by decide);have HQ20:=hide (HQ19.out.kt (by omega) hK20 (by decide) (by decide));have HX20:=hide ((hgrow20.block X (by simp;omega) (fun e=>by have:=HV9.out X e.symm;omega)).trans (block_keep _ HX19.out));have HO20:=hide (own_same HO19.out fun g hg=>by
   have:=own_ge HO19.out hg;exact (hgrow20.block g (by simp;omega) (fun e=>by have:=HV9.out g e.symm;omega)).trans (hag.block g this.2))
  have HB20:=hide (HB19.out.trans ((hag.mono (by omega)).grown hgrow20 (by simp;omega) (fun k hk=>by have:=own_ge HCE.out hk;omega)));have HDC20:=hide ((HDC19.out.new (by omega) hag).cameN (x:=⟨p,av,st8.l.length,cv,ar,refs.length,cr⟩) (by simp;omega) (HCE.out.alloc _) HCP.out hown20 hgrow20 (Hat.of (Nat.le_refl _) hat20));have HV20:Hid (∀k,(Value.slice a20 (ce.length+1) c20).ownBlock=some k→k<X∨w19.heap.size≤k):=hide fun k hk=>by
   have:=Hat.of (w:=w19.alloc (.cells #[.string p,.slice av st8.l.length cv,.slice ar refs.length cr] 76)) (Nat.le_refl _) hat20 k hk;rcases this with h | h
   ·exact .inl (HV9.out k h)
   ·exact .inr (by simp at h;omega)
  have hXs20:X<w20.heap.size:=by omega
  have hR20:R<w20.heap.size:=by omega
  clear hown20 hgrow20 hnil20 hat20 hag hK20 HQ19 HX19 HO19 HB19 HDC19 HCE x0 x1 x2;rcases HFi.out with ⟨hf1,hf2⟩ | ⟨k,hk1,hk2,hf1,hf2⟩
  ·subst hf2;have hnone:(findS d.l p).isNone=true:=by rw[hf1];rfl
   have hK:=HK.out;rw[if_pos hnone,if_pos hnone]at hK;have HK2:=hide hK;obtain ⟨le2,hSE2,hRE2,hnil2,_,hre2⟩:=HDC20.out.l;have hll2:=hRE2.length;have cU:=rput_le (V:=w20) (av:=a8) (l:=le2) (cv:=c8) (by rw[hll2];exact hSE2) (by omega) ⟨p,av,st8.l.length,cv,ar,refs.length,cr⟩ (fun e=>by rw[hll2];exact hnil2 (List.eq_nil_of_length_eq_zero (by rw[← hll2,e];rfl)));rw[hll2]at cU;have CU:=hide cU;have HPUT:Hid (∀v21 w21,w21.ownsRow w20.heap.size 76 3 v21 (insR le2 ⟨p,av,st8.l.length,cv,ar,refs.length,cr⟩).length (flatR (insR le2 ⟨p,av,st8.l.length,cv,ar,refs.length,cr⟩))→Below w20.heap.size w20 w21→DC F R w21 (insS ⟨p,st8.l,refs⟩ d.l) (d.came++[p]) d.fresh v21 (.slice a20 (ce.length+1) c20) (.slice a10 d.fresh.length c10)):=hide fun v21 w21 ho hb=>by
    have hl11:st11.l=st8.l:=hp11.1.trans (hp10.1.trans hp9.1);have hnd:=HQ20.out.nd;rw[hl11]at hnd;obtain ⟨ce',hce',_⟩:=HDC20.out.ca;refine HDC20.out.put (x:=⟨p,st8.l,refs⟩) (y:=⟨p,av,st8.l.length,cv,ar,refs.length,cr⟩) hR20 hRE2 hre2 ⟨rfl,(own_nodes hnd).1,own_strs HO20.out⟩ ⟨fun ad n c e=>?_,fun ad n c e=>?_⟩ hf1 ho hb
    ·have hob:(Value.slice av st8.l.length cv).ownBlock=some ad.block:=by rw[show Value.slice av st8.l.length cv=_ from e];rfl
     obtain ⟨cs,fz,hc⟩:=own_kind hnd _ hob;have hge:=own_ge hnd hob;refine .inr ⟨by omega,⟨cs,42,fz,hc,by decide⟩,fun e=>?_,fun e=>?_⟩
     ·obtain ⟨cs',fz',hc'⟩:=own_kind hce' _ e;rw[hc]at hc';injection hc' with hc'
      injection hc' with _ hc' _
      exact absurd hc' (by decide)
     ·obtain ⟨cs',fz',hc'⟩:=own_kind HDC20.out.fr _ e;rw[hc]at hc';injection hc' with hc'
      injection hc' with _ hc' _
      exact absurd hc' (by decide)
    ·have hob:(Value.slice ar refs.length cr).ownBlock=some ad.block:=by rw[show Value.slice ar refs.length cr=_ from e];rfl
     obtain ⟨cs,fz,hc⟩:=own_kind HO20.out _ hob;have hge:=own_ge HO20.out hob;refine .inr ⟨by omega,⟨cs,9,fz,hc,by decide⟩,fun e=>?_,fun e=>?_⟩
     ·obtain ⟨cs',fz',hc'⟩:=own_kind hce' _ e;rw[hc]at hc';injection hc' with hc'
      injection hc' with _ hc' _
      exact absurd hc' (by decide)
     ·have:=HV10.out _ e;omega
   have hlin:(insR le2 ⟨p,av,st8.l.length,cv,ar,refs.length,cr⟩).length=(insS ⟨p,st8.l,refs⟩ d.l).length:=by
    rw[insS_len,← hll2];unfold insR;simp only[List.length_append,List.length_take,List.length_drop,List.length_singleton];have:belowN le2 p≤le2.length:=List.findIdx_le_length;omega
   have x0:w20.cell? ⟨X,0,none⟩=some (.string p):=by simp[World.cell?,HX20.out]
   have x1:w20.cell? ⟨X,1,none⟩=some (.slice av st8.l.length cv):=by simp[World.cell?,HX20.out]
   have x2:w20.cell? ⟨X,2,none⟩=some (.slice ar refs.length cr):=by simp[World.cell?,HX20.out]
   clear cU hSE2 hRE2 hnil2 hre2 HFi hf1 hnone hK HDC20 HO20 HK
   go_wp2_with fail
   refine CU.out.mono ?_;rintro e w21 ⟨v21,rfl,hO21,hb21⟩;have HDC21:=hide (HPUT.out v21 w21 hO21 hb21);obtain ⟨a21,c21,rfl,_⟩:=own_sl hO21;rw[hlin]at HDC21 ⊢;have HQ21:=hide (HQ20.out.new hb21);have HB21:=hide (HB20.out.trans (hb21.mono (by omega)));have x0':w21.cell? ⟨X,0,none⟩=some (.string p):=cellB hb21 x0;have hs21:=hb21.size;clear hO21 hb21 HPUT CU x0 x1 x2 HQ20 HB20 HX20
   go_wp2_with (at_builtin;refine wpList_append_own_at _ rfl (.tmp 166) (.tmp 169) 26 rfl (R+1) 9 i9 (.string ⟨#[]⟩) 1 16 Tryz.underlying26 hi9 h90 h91 h92 rfl (by decide) _ _ _ rfl (HDC21.out.fr.alloc _) ⟨w21.heap.size,0,none⟩ 1 1 [.string p] rfl rfl (cell_one_at _ _ _ _ rfl) (fun x hx=>by simp at hx;subst hx;rfl) (by unfold maxLen;omega) (by omega) (by simp;omega) ?_;intro v22 w22 hown22 hgrow22 hnil22 hat22;obtain ⟨a22,c22,rfl,_⟩:=own_sl hown22)
   have hag:=(Below.refl _ w21).alloc (Nat.le_refl _) (.cells #[.string p] 9);have hK22:KT [9] w21 w22:=((KT.refl [9] w21).alloc _).grown (HDC21.out.fr.alloc _) hgrow22 (by decide);have hs22:w21.heap.size+1≤w22.heap.size:=by have:=hgrow22.size;simpa using this
   have HDC22:=(HDC21.out.new (by omega) hag).freshN (p:=p) (by simp;omega) hown22 hgrow22 (Hat.of (Nat.le_refl _) hat22);refine hQ.out w22 _ _ _ _ _ _ _ _ _ _ _ _ _ _ _ _ _ _ _ _ _ _ _ _ _ _ _ _ _ _ _ _ _ _ _ _ _ _ _ _ _ _ _ _ _ _ _ _ _ _ _ _ _ _ _ _ _ _ _ _ _ _ _ _ _ _ _ _ _ _ _ _ _ _ _ _ _ _ _ _ _ _ _ _ _ _ _ _ _ _ _ _ _ _ _ _ _ _ _ _ _ _ _ _ _ _ _ _ _ _ _ _ _ _ _ _ _ _ _ _ _ _ _ _ _ _ _ _ _ _ _ _ _ _ _ _ _ _ _ _ _ _ _ _ _ _ _ _ ?_;rw[HK2.out];refine ⟨a21,a20,a22,c21,c20,c22,rfl,by rw[List.length_append];rfl,by rw[List.length_append];rfl,HQ21.out.kt (by omega) hK22 (by decide) (by decide),?_,HB21.out.trans ((hag.mono (by omega)).grown hgrow22 (by simp;omega) (fun k hk=>by have:=own_ge HDC21.out.fr hk;omega))⟩;rw[hcel]at HDC22;exact HDC22
  ·subst hf1;have hsome:¬ (findS d.l p).isNone=true:=by rw[hf2];simp
   have hK:=HK.out;rw[if_neg hsome,if_neg hsome]at hK;have HK2:=hide hK;have hkz:¬ (k:Int)<0:=by omega
   clear hK HK hsome HFi hf2;go_wp2;refine hQ.out w20 _ _ _ _ _ _ _ _ _ _ _ _ _ _ _ _ _ _ _ _ _ _ _ _ _ _ _ _ _ _ _ _ _ _ _ _ _ _ _ _ _ _ _ _ _ _ _ _ _ _ _ _ _ _ _ _ _ _ _ _ _ _ _ _ _ _ _ _ _ _ _ _ _ _ _ _ _ _ _ _ _ _ _ _ _ _ _ _ _ _ _ _ _ _ _ _ _ _ _ _ _ _ _ _ _ _ _ _ _ _ _ _ _ _ _ _ _ _ _ _ _ _ _ _ _ _ _ _ _ _ _ _ _ _ _ _ _ _ _ _ _ _ _ _ _ _ _ _ ?_;rw[HK2.out];exact ⟨a8,a20,a10,c8,c20,c10,rfl,by rw[List.length_append];rfl,rfl,HQ20.out,by have:=HDC20.out;rw[hcel]at this;exact this,HB20.out⟩
end Go.Proofs.YticfcjmlphhpgaaGreatDoor
