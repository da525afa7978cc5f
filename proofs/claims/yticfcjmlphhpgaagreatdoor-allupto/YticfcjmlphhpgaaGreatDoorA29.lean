import Derived.Test.YticfcjmlphhpgaaGreatDoorA21
import Derived.Test.YticfcjmlphhpgaaGreatDoorA23
import Derived.Test.YticfcjmlphhpgaaGreatDoorA24
import Derived.Test.YticfcjmlphhpgaaGreatDoorA28
set_option maxRecDepth 20000
set_option maxHeartbeats 4000000
namespace Go.Proofs.YticfcjmlphhpgaaGreatDoor
open Go.RowKit Go.Maps
structure Pr where
 q:Nat
 b:Nat
 r:Nat
 S:List Ent
def flatP:List Pr→List Value
 | []=>[]
 | p :: l=>.pointer (some ⟨p.q,0,none⟩) :: .pointer (some ⟨p.r,0,none⟩) :: flatP l
theorem flatP_get:∀(l:List Pr) (j:Nat) (h:j<l.length),(flatP l)[j*2]?=some (.pointer (some ⟨l[j].q,0,none⟩))∧(flatP l)[j*2+1]?=some (.pointer (some ⟨l[j].r,0,none⟩))
 | p :: l,0,_=>⟨rfl,rfl⟩
 | p :: l,j+1,h=>by
  have:=flatP_get l j (by simpa using h);have e:(j+1)*2=j*2+2:=by omega
  rw[e];exact this
theorem flatP_append:∀(a b:List Pr),flatP (a++b)=flatP a++flatP b
 | [],_=>rfl
 | p :: a,b=>by simp only[List.cons_append,flatP,flatP_append a b]
theorem flatP_set:∀(l:List Pr) (i:Nat) (h:i<l.length) (S:List Ent),flatP (l.set i ⟨l[i].q,l[i].b,l[i].r,S⟩)=flatP l
 | p :: l,0,_,S=>rfl
 | p :: l,i+1,h,S=>by
  have:=flatP_set l i (by simpa using h) S;simp only[List.set_cons_succ,flatP,List.getElem_cons_succ,this]
theorem PStF.mono' {F F':Nat→Prop} {w:World} {b:Nat} {S:List Ent} (h:PStF F w b S) (hF:∀k,k<w.heap.size→F k→F' k):PStF F' w b S:=by
 obtain ⟨L,h1,h2,h3⟩:=h;exact ⟨L,h1,h2,fun x hx=>(h3 x hx).mono fun k hk=>⟨hF k hk.2 hk.1,hk.2⟩⟩
theorem RStF.mono' {F F':Nat→Prop} {w:World} {b:Nat} {S:List Ent} (h:RStF F w b S) (hF:∀k,k<w.heap.size→F k→F' k):RStF F' w b S:=by
 obtain ⟨v,l,h1,h2,h3,h4,h5,h6⟩:=h;exact ⟨v,l,h1,h2,h3,h4,h5.mono fun k hk=>⟨hF k hk.2 hk.1,hk.2⟩,fun y hy=>(h6 y hy).mono fun k hk=>⟨hF k hk.2 hk.1,hk.2⟩⟩
def KF (P:Nat→Prop) (w w':World):Prop:=w.heap.size≤w'.heap.size∧∀k off s,P k→w.cell? ⟨k,off,none⟩=some (.string s)→w'.heap[k]?=w.heap[k]?
theorem cell_blk {w w':World} {k off:Nat} (h:w'.heap[k]?=w.heap[k]?):w'.cell? ⟨k,off,none⟩=w.cell? ⟨k,off,none⟩:=by simp only[World.cell?,h]
theorem SliceS.kf {P:Nat→Prop} {w w':World} {v:Value} {ss:List ByteArray} (h:SliceS w v ss) (hf:FootV P v) (hk:KF P w w'):SliceS w' v ss:=by
 obtain ⟨a,c,rfl,h1,h2⟩:=h;refine ⟨a,c,rfl,h1,fun hp=>?_⟩;obtain ⟨b,off,rfl,h3,h4⟩:=h2 hp;refine ⟨b,off,rfl,Nat.lt_of_lt_of_le h3 hk.1,fun j hj=>?_⟩;rw[cell_blk (hk.2 b _ _ (hf _ _ _ rfl) (h4 j hj))];exact h4 j hj
theorem SliceN.kf {P:Nat→Prop} {w w':World} {v:Value} {ns:List Nd} (h:SliceN w v ns) (hf:FootV P v) (hk:KF P w w'):SliceN w' v ns:=by
 obtain ⟨a,c,rfl,h1,h2,h3,h4⟩:=h;refine ⟨a,c,rfl,h1,h2,h3,fun hp=>?_⟩;obtain ⟨b,off,rfl,h5,h6⟩:=h4 hp;refine ⟨b,off,rfl,Nat.lt_of_lt_of_le h5 hk.1,fun j hj=>?_⟩;have h7:=h6 j hj;have hb:=hk.2 b _ _ (hf _ _ _ rfl) h7.1;rw[cell_blk hb,cell_blk hb,cell_blk hb];exact h7
theorem SliceE.kf {P:Nat→Prop} {w w':World} {v:Value} {l:List REn} (h:SliceE w v l) (hf:FootV P v) (hk:KF P w w'):SliceE w' v l:=by
 obtain ⟨a,c,rfl,h1,h2⟩:=h;refine ⟨a,c,rfl,h1,fun hp=>?_⟩;obtain ⟨b,off,rfl,h3,h4⟩:=h2 hp;refine ⟨b,off,rfl,Nat.lt_of_lt_of_le h3 hk.1,fun j hj=>?_⟩;have h5:=h4 j hj;have hb:=hk.2 b _ _ (hf _ _ _ rfl) h5.1;rw[cell_blk hb,cell_blk hb,cell_blk hb];exact h5
theorem EntsAt.kf {P:Nat→Prop} {w w':World} (hk:KF P w w'):∀{L:List (Bs × Value)} {S:List Ent},EntsAt w L S→(∀x∈L,Foot P x.2)→EntsAt w' L S
 | [],[],_,_=>trivial
 | [],_ :: _,h,_=>h.elim
 | _ :: _,[],h,_=>h.elim
 | x :: L,e :: S,h,hf=>by
  obtain ⟨⟨h1,a,n,c,h2,h3⟩,h4⟩:=h;exact ⟨⟨h1,a,n,c,h2,h3.kf (hf x List.mem_cons_self _ a n c h2) hk⟩,EntsAt.kf hk h4 fun y hy=>hf y (List.mem_cons_of_mem _ hy)⟩
theorem REsAt.kf {P:Nat→Prop} {w w':World} (hk:KF P w w'):∀{l:List REn} {S:List Ent},REsAt w l S→(∀y∈l,REFoot P y)→REsAt w' l S
 | [],[],_,_=>trivial
 | [],_ :: _,h,_=>h.elim
 | _ :: _,[],h,_=>h.elim
 | x :: l,e :: S,h,hf=>by
  obtain ⟨⟨h1,h2,h3⟩,h4⟩:=h;have hx:=hf x List.mem_cons_self;exact ⟨⟨h1,h2.kf hx.1 hk,h3.kf hx.2 hk⟩,REsAt.kf hk h4 fun y hy=>hf y (List.mem_cons_of_mem _ hy)⟩
theorem NStF.kf {F:Nat→Prop} {w w':World} {q b:Nat} {S:List Ent} (h:NStF F w q b S) (hk:KF (fun k=>F k∧k<w.heap.size) w w') (hq:w'.heap[q]?=w.heap[q]?) (hb:w'.heap[b]?=w.heap[b]?):NStF F w' q b S:=by
 obtain ⟨h0,L,h1,h2,h3⟩:=h;exact ⟨hq.trans h0,L,h1.blk hb,h2.kf hk h3,fun x hx=>(h3 x hx).mono fun k h=>⟨h.1,Nat.lt_of_lt_of_le h.2 hk.1⟩⟩
theorem RStF.kf {F:Nat→Prop} {w w':World} {r:Nat} {S:List Ent} (h:RStF F w r S) (hk:KF (fun k=>F k∧k<w.heap.size) w w') (hr:w'.heap[r]?=w.heap[r]?):RStF F w' r S:=by
 obtain ⟨v,l,h1,h2,h3,h4,h5,h6⟩:=h;exact ⟨v,l,hr.trans h1,h2.kf h5 hk,h3.kf hk h6,h4,h5.mono fun k h=>⟨h.1,Nat.lt_of_lt_of_le h.2 hk.1⟩,fun y hy=>(h6 y hy).mono fun k h=>⟨h.1,Nat.lt_of_lt_of_le h.2 hk.1⟩⟩
structure OkS (S:List Ent):Prop where
 closed:ClosedS S
 tree:∀e∈S,IsTree e.nodes∧(packB e.nodes).size≤50000000
 rs:∀e∈S,∀r∈e.refs,r.size≤1000000000
theorem OkS.good {S:List Ent} (h:OkS S):GoodS S:=⟨fun e he=>(h.tree e he).1,h.closed.refs,h.closed.few⟩
theorem OkS.nil:OkS []:=⟨⟨fun e he=>(by cases he),by simp,fun e he=>(by cases he),fun e he=>(by cases he),List.Pairwise.nil⟩,fun e he=>(by cases he),fun e he=>(by cases he)⟩
structure OkX (x:Ent):Prop where
 path:x.path.size≤1000000
 small:Small x.nodes
 sz:∀n∈x.nodes,n.path.size≤262144∧n.data.size≤262144
 refs:x.refs.length≤1000000
 rs:∀r∈x.refs,r.size≤1000000
theorem OkX.bulk {x:Ent} (h:OkX x) (hw:refWrong x.nodes=none):bulk x.nodes≤60030000:=by
 obtain ⟨h30,_,_⟩:=len30 x.nodes hw;have h1:=bulk_le x.nodes (fun n hn=>by have:=h.sz n hn;omega);generalize x.nodes.length=n at h30 h1;omega
theorem insS_mem' {x y:Ent}:∀{S:List Ent},y=x∨y∈S→y∈insS x S
 | [],h=>by
  rcases h with rfl | h
  ·exact List.mem_cons_self
  ·cases h
 | z :: S,h=>by
  have e2:insS x (z :: S)=if bytesBefore x.path.data.toList z.path.data.toList=true then x :: z :: S else z :: insS x S:=rfl
  rw[e2]
  split
  ·rcases h with rfl | h
   ·exact List.mem_cons_self
   ·exact List.mem_cons_of_mem _ h
  ·rcases h with rfl | h
   ·exact List.mem_cons_of_mem _ (insS_mem' (.inl rfl))
   ·rcases List.mem_cons.1 h with rfl | h
    ·exact List.mem_cons_self
    ·exact List.mem_cons_of_mem _ (insS_mem' (.inr h))
theorem insS_len (x:Ent):∀S,(insS x S).length=S.length+1
 | []=>rfl
 | z :: S=>by
  have e2:insS x (z :: S)=if bytesBefore x.path.data.toList z.path.data.toList=true then x :: z :: S else z :: insS x S:=rfl
  rw[e2]
  split
  ·rfl
  ·rw[List.length_cons,insS_len x S];rfl
end Go.Proofs.YticfcjmlphhpgaaGreatDoor
namespace Go.Proofs.YticfcjmlphhpgaaGreatDoor
open Go.RowKit
theorem insS_ne (x:Ent) (A:List Ent):insS x A≠[]:=fun e=>by have:=insS_len x A;rw[e]at this;simp at this
def FD (F:Nat→Prop) (R:Nat) (w:World) (v9 v10:Value) (k:Nat):Prop:=(k<R∧F k)∨R<k∧(∃cs t fz,w.heap[k]?=some (.cells cs t fz)∧t≠92)∧v9.ownBlock≠some k∧v10.ownBlock≠some k
def DL (P:Nat→Prop) (w:World) (v8:Value) (A:List Ent):Prop:=∃le,SliceE w v8 le∧REsAt w le A∧(A=[]→v8=.slice none 0 0)∧FootV P v8∧∀y∈le,REFoot P y
theorem DL.keep {P P':Nat→Prop} {w w':World} {v8:Value} {A:List Ent} (h:DL P w v8 A) (hs:w.heap.size≤w'.heap.size) (hk:∀k,P k→k<w.heap.size→w'.heap[k]?=w.heap[k]?) (hP:∀k,P k→P' k):DL P' w' v8 A:=by
 obtain ⟨le,h1,h2,h3,h4,h5⟩:=h;have hkf:KF P w w':=⟨hs,fun k off s hp hc=>hk k hp (World.block_lt_of_cell? _ _ hc)⟩;exact ⟨le,h1.kf h4 hkf,h2.kf hkf h5,h3,h4.mono hP,fun y hy=>(h5 y hy).mono hP⟩
structure DC (F:Nat→Prop) (R:Nat) (w:World) (A:List Ent) (came fresh:List ByteArray) (v8 v9 v10:Value):Prop where
 l:DL (FD F R w v9 v10) w v8 A
 ca:∃ce:List REn,w.ownsRow (R+1) 76 3 v9 ce.length (flatR ce)∧ce.map (·.path)=came
 fr:w.ownsRow (R+1) 9 1 v10 fresh.length (fresh.map Value.string)
section
variable {F:Nat→Prop} {R B:Nat} {w w':World} {A:List Ent} {came fresh:List ByteArray} {v8 v9 v10:Value} {s:ByteArray} {v:Value} {st:Ns}
theorem FD.lt {k:Nat} (h:FD F R w v9 v10 k) (hR:R<w.heap.size):k<w.heap.size∧k≠R:=by
 rcases h with h | ⟨h,⟨cs,t,fz,hc,_⟩,_⟩
 ·omega
 ·exact ⟨lt_of_block hc,by omega⟩
theorem DC.same (h:DC F R w A came fresh v8 v9 v10) (hR:R<w.heap.size) (hs:w.heap.size≤w'.heap.size) (hk:∀k,k<w.heap.size→k≠R→w'.heap[k]?=w.heap[k]?):DC F R w' A came fresh v8 v9 v10:=by
 obtain ⟨ce,hce,hcp⟩:=h.ca;have hrow:∀{e s n:Nat} {v:Value} {xs:List Value},w.ownsRow (R+1) e s v n xs→w'.ownsRow (R+1) e s v n xs:=fun ho=>own_same ho fun g hg=>hk g (own_ge ho hg).2 (by have:=(own_ge ho hg).1;omega)
 refine ⟨h.l.keep hs (fun k hf _=>hk k (hf.lt hR).1 (hf.lt hR).2) (fun k hf=>?_),⟨ce,hrow hce,hcp⟩,hrow h.fr⟩;have hl:=hf.lt hR;rcases hf with hf | ⟨h1,⟨cs,t,fz,hc,ht⟩,h2⟩
 ·exact .inl hf
 ·exact .inr ⟨h1,⟨cs,t,fz,(hk k hl.1 hl.2).trans hc,ht⟩,h2⟩
theorem DC.new (h:DC F R w A came fresh v8 v9 v10) (hR:R<w.heap.size) (hb:Below w.heap.size w w'):DC F R w' A came fresh v8 v9 v10:=h.same hR hb.size fun k hk _=>hb.block k hk
theorem DC.qp (h:DC F R w A came fresh v8 v9 v10) (hB:R≤B) (hq:QP B R w s v st w'):DC F R w' A came fresh v8 v9 v10:=by
 obtain ⟨_,hx,hkt⟩:=hq;obtain ⟨ce,hce,hcp⟩:=h.ca;have hk:∀k,FD F R w v9 v10 k→w'.heap[k]?=w.heap[k]?:=fun k hf=>by
  rcases hf with hf | ⟨_,⟨cs,t,fz,hc,ht⟩,_⟩
  ·exact hx.2 k (by omega) (by omega)
  ·exact (hkt _ _ _ _ hc (by simpa using ht)).trans hc.symm
 refine ⟨h.l.keep hx.size (fun k hf _=>hk k hf) (fun k hf=>?_),⟨ce,own_kt hce hkt (by decide),hcp⟩,own_kt h.fr hkt (by decide)⟩;have:=hk k hf;rcases hf with hf | ⟨h1,⟨cs,t,fz,hc,ht⟩,h2⟩
 ·exact .inl hf
 ·exact .inr ⟨h1,⟨cs,t,fz,this.trans hc,ht⟩,h2⟩
theorem DC.cameN {x:REn} {v9':Value} {ce:List REn} (h:DC F R w A came fresh v8 v9 v10) (hR:R<w.heap.size) (hce:w.ownsRow (R+1) 76 3 v9 ce.length (flatR ce)) (hcp:ce.map (·.path)=came) (ho:w'.ownsRow (R+1) 76 3 v9' (ce.length+1) (flatR ce++flatR [x])) (hg:w.grownBy w' v9.ownBlock) (hat:Hat w v9 v9'):DC F R w' A (came++[x.path]) fresh v8 v9' v10:=by
 have hfr:w'.ownsRow (R+1) 9 1 v10 fresh.length (fresh.map Value.string):=grown_not h.fr hg fun k hk e=>by
  obtain ⟨c,fz,hc⟩:=own_kind hce k e;obtain ⟨c',fz',hc'⟩:=own_kind h.fr k hk;rw[hc]at hc';injection hc' with hc'
  injection hc' with _ hc' _
  exact absurd hc' (by decide)
 refine ⟨h.l.keep hg.size (fun k hf _=>?_) (fun k hf=>?_),⟨ce++[x],by rw[List.length_append,flatR_append];exact ho,by rw[List.map_append,hcp];rfl⟩,hfr⟩
 ·have hl:=hf.lt hR;rcases hf with hf | ⟨h1,_,h3,h4⟩
  ·exact hg.block k hl.1 fun e=>by have:=(own_ge hce e.symm).1;omega
  ·exact hg.block k hl.1 fun e=>h3 e.symm
 ·have hl:=hf.lt hR;rcases hf with hf | ⟨h1,⟨cs,t,fz,hc,ht⟩,h3,h4⟩
  ·exact .inl hf
  ·refine .inr ⟨h1,⟨cs,t,fz,(hg.block k hl.1 fun e=>h3 e.symm).trans hc,ht⟩,fun e=>?_,h4⟩;rcases hat k e with h5 | h5
   ·exact h3 h5
   ·omega
theorem DC.freshN {p:ByteArray} {v10':Value} (h:DC F R w A came fresh v8 v9 v10) (hR:R<w.heap.size) (ho:w'.ownsRow (R+1) 9 1 v10' (fresh.length+1) (fresh.map Value.string++[.string p])) (hg:w.grownBy w' v10.ownBlock) (hat:Hat w v10 v10'):DC F R w' A came (fresh++[p]) v8 v9 v10':=by
 obtain ⟨ce,hce,hcp⟩:=h.ca;have hca:w'.ownsRow (R+1) 76 3 v9 ce.length (flatR ce):=grown_not hce hg fun k hk e=>by
  obtain ⟨c,fz,hc⟩:=own_kind hce k hk;obtain ⟨c',fz',hc'⟩:=own_kind h.fr k e;rw[hc]at hc';injection hc' with hc'
  injection hc' with _ hc' _
  exact absurd hc' (by decide)
 refine ⟨h.l.keep hg.size (fun k hf _=>?_) (fun k hf=>?_),⟨ce,hca,hcp⟩,by rw[List.length_append,List.map_append];exact ho⟩
 ·have hl:=hf.lt hR;rcases hf with hf | ⟨h1,_,h3,h4⟩
  ·exact hg.block k hl.1 fun e=>by have:=(own_ge h.fr e.symm).1;omega
  ·exact hg.block k hl.1 fun e=>h4 e.symm
 ·have hl:=hf.lt hR;rcases hf with hf | ⟨h1,⟨cs,t,fz,hc,ht⟩,h3,h4⟩
  ·exact .inl hf
  ·refine .inr ⟨h1,⟨cs,t,fz,(hg.block k hl.1 fun e=>h4 e.symm).trans hc,ht⟩,h3,fun e=>?_⟩;rcases hat k e with h5 | h5
   ·exact h4 h5
   ·omega
theorem DC.put {v8':Value} {x:Ent} {y:REn} {le:List REn} (h:DC F R w A came fresh v8 v9 v10) (hR:R<w.heap.size) (hre:REsAt w le A) (hfo:∀y∈le,REFoot (FD F R w v9 v10) y) (hy:REAt w y x) (hyf:REFoot (FD F R w v9 v10) y) (hf:findS A x.path=none) (ho:w'.ownsRow w.heap.size 76 3 v8' (insR le y).length (flatR (insR le y))) (hb:Below w.heap.size w w'):DC F R w' (insS x A) came fresh v8' v9 v10:=by
 have hn:=h.new hR hb;have hFD:∀k,FD F R w v9 v10 k→FD F R w' v9 v10 k:=fun k hk=>by
  have hl:=hk.lt hR;rcases hk with hk | ⟨h1,⟨cs,t,fz,hc,ht⟩,h2⟩
  ·exact .inl hk
  ·exact .inr ⟨h1,⟨cs,t,fz,(hb.block k hl.1).trans hc,ht⟩,h2⟩
 refine ⟨⟨insR le y,own_ents ho,REsAt.ins (⟨hy.1,hy.2.1.below hb,hy.2.2.below hb⟩) (hre.mono (fun v ns hs=>hs.below hb) (fun v ss hs=>hs.below hb)) hf,fun e=>absurd e (insS_ne x A),fun ad n c e=>?_,fun z hz=>?_⟩,hn.ca,hn.fr⟩
 ·have hob:v8'.ownBlock=some ad.block:=by rw[e];rfl
  obtain ⟨cs,fz,hc⟩:=own_kind ho _ hob;have hge:=(own_ge ho hob).1;obtain ⟨ce,hce,_⟩:=h.ca;exact .inr ⟨by omega,⟨cs,76,fz,hc,by decide⟩,fun e=>by have:=(own_ge hce e).2;omega,fun e=>by have:=(own_ge h.fr e).2;omega⟩
 ·rcases insR_mem hz with rfl | hz
  ·exact hyf.mono hFD
  ·exact (hfo z hz).mono hFD
structure FRX (R X:Nat) (w w':World):Prop where
 sz:w.heap.size≤w'.heap.size
 lo:Below R w w'
 hi:∀k c t fz,k<X→w.heap[k]?=some (.cells c t fz)→t≠92→w'.heap[k]?=some (.cells c t fz)
theorem FRX.trans {X:Nat} {w1 w2 w3:World} (h:FRX R X w1 w2) (k:FRX R X w2 w3):FRX R X w1 w3:=⟨Nat.le_trans h.sz k.sz,h.lo.trans k.lo,fun i c t fz hi hc ht=>k.hi i c t fz hi (h.hi i c t fz hi hc ht) ht⟩
theorem FRX.new {X:Nat} (hb:Below w.heap.size w w') (hR:R≤w.heap.size):FRX R X w w':=⟨hb.size,hb.mono hR,fun k _ _ _ _ hc _=>(hb.block k (lt_of_block hc)).trans hc⟩
theorem FRX.qp {X:Nat} (hq:QP B R w s v st w') (hB:R≤B):FRX R X w w':=⟨hq.2.1.size,hq.2.1.1 R hB (Nat.le_refl _),fun k c t fz _ hc ht=>hq.2.2 k c t fz hc (by simpa using ht)⟩
theorem FRX.qq {X:Nat} (hr:QR B R w s v st) {st':Ns} (hq:QQ w.heap.size R w s st' w'):FRX R X w w':=⟨hq.2.1.size,hq.2.1.1 R (Nat.le_of_lt hr.lt) (Nat.le_refl _),fun k c t fz _ hc ht=>by
 by_cases hk:k=R
 ·subst hk;have:=hr.blk;rw[hc]at this;injection this with this
  injection this with _ this _
  exact absurd this ht
 ·exact (hq.2.1.2 k (lt_of_block hc) hk).trans hc⟩
theorem FRX.set {X:Nat} (h:FRX R X w w') (j:Nat) (u:Value) (hRX:R<X):FRX R X w (w'.setCell ⟨X,j,none⟩ u):=
 ⟨by rw[size_set];exact h.sz,h.lo.setCell (Nat.le_of_lt hRX) _,fun k c t fz hk hc ht=>by rw[Below.heap_setCell _ _ _ _ (by simp;omega)];exact h.hi k c t fz hk hc ht⟩
theorem FRX.grown {X:Nat} {w2:World} {row:Option Nat} (h:FRX R X w w') (hg:w'.grownBy w2 row) (hrow:∀k,row=some k→X≤k) (hRX:R<X) (hXs:X≤w'.heap.size):FRX R X w w2:=
 ⟨Nat.le_trans h.sz hg.size,h.lo.grown hg (by omega) (fun k hk=>by have:=hrow k hk;omega),fun k c t fz hk hc ht=>(hg.block k (by omega) (fun e=>by have:=hrow k e.symm;omega)).trans (h.hi k c t fz hk hc ht)⟩
theorem DC.frx (h:DC F R w A came fresh v8 v9 v10) (hf:FRX R w.heap.size w w'):DC F R w' A came fresh v8 v9 v10:=by
 obtain ⟨ce,hce,hcp⟩:=h.ca;have hrow:∀{e s n:Nat} {v:Value} {xs:List Value},w.ownsRow (R+1) e s v n xs→e≠92→w'.ownsRow (R+1) e s v n xs:=fun ho he=>own_same ho fun g hg=>by
  obtain ⟨c,fz,hc⟩:=own_kind ho g hg;exact (hf.hi g c _ fz (lt_of_block hc) hc he).trans hc.symm
 have hk:∀k,FD F R w v9 v10 k→w'.heap[k]?=w.heap[k]?:=fun k hd=>by
  rcases hd with hd | ⟨_,⟨cs,t,fz,hc,ht⟩,_⟩
  ·exact hf.lo.block k hd.1
  ·exact (hf.hi k cs t fz (lt_of_block hc) hc ht).trans hc.symm
 refine ⟨h.l.keep hf.sz (fun k hd _=>hk k hd) (fun k hd=>?_),⟨ce,hrow hce (by decide),hcp⟩,hrow h.fr (by decide)⟩;have:=hk k hd;rcases hd with hd | ⟨h1,⟨cs,t,fz,hc,ht⟩,h2⟩
 ·exact .inl hd
 ·exact .inr ⟨h1,⟨cs,t,fz,this.trans hc,ht⟩,h2⟩
end
abbrev Res:=(List ByteArray × Int × Nat) × List Ent
def noR (A:List Ent) (e:Int) (p:Nat):Res:=(([],e,p),A)
def fin (A:List Ent) (m:IS):Res:=impEnd A (runG stepI m.left.length m)
theorem fin_step (A:List Ent) (m:IS):fin A m=match stepI m with
  | .go m'=>fin A m'
  | .stop=>impEnd A (.ok m)
  | .fail e p=>noR A e p:=by
 unfold fin;cases hs:stepI m with
 | stop=>cases m.left.length <;> simp only[runG,hs]
 | fail e p=>
  have:=(stepI_fail hs).1;cases hl:m.left.length with
  | zero=>omega
  | succ k=>simp only[runG,hs];rfl
 | go m'=>
  have:=stepI_go hs;cases hl:m.left.length with
  | zero=>omega
  | succ k=>
   simp only[runG,hs];rw[runG_fuel impML k m'.left.length m' (by omega) (Nat.le_refl _)]
structure AtI (S:Bs) (st:Ns) (m:IS):Prop where
 e:st.e=0
 left:m.left=S.drop st.pos
 pos:m.pos=st.pos
 le:st.pos≤S.length
theorem AtI.len {S:Bs} {st:Ns} {m:IS} (h:AtI S st m):m.pos+m.left.length=S.length:=by
 rw[h.left,h.pos,List.length_drop];have:=h.le;omega
theorem AtI.go {S:Bs} {st:Ns} {m m':IS} {k:Nat} {t rest:Bs} {n:Nat} (h:AtI S st m) (hc:cutF m.left k=.ok t rest n):AtI S ⟨st.pos+n,st.e,st.bad,st.l⟩ {m' with left:=rest,pos:=m.pos+n}:=by
 obtain ⟨h1,h2,h3,h4,h5,h6,_⟩:=cutF_ok hc;have hl:=h.len;refine ⟨h.e,?_,?_,?_⟩
 ·show rest=S.drop (st.pos+n);rw[h6,h.left,List.drop_drop]
 ·show m.pos+n=st.pos+n;rw[h.pos]
 ·show st.pos+n≤S.length;have:=h.pos;omega
theorem sim_next {A:List Ent} {S:Bs} {st:Ns} {m:IS} {k:Nat} (h:AtI S st m) (hln:m.ln≠0) (hk:m.most=k) (G:Ns→ByteArray→Res) (hd:∀st' x,st'.e≠0→G st' x=noR A st'.e st'.bad)
  (hG:∀t rest n,cutF m.left k=.ok t rest n→G ⟨st.pos+n,st.e,st.bad,st.l⟩ ⟨t.toArray⟩=match takeI m ⟨t.toArray⟩ with | .err e=>noR A e m.pos | .more m'=>fin A {m' with left:=rest,pos:=m.pos+n}) :
  G (nextN S k st).1 (nextN S k st).2=fin A m:=by
 have hl:=h.len;rw[fin_step];unfold stepI;rw[if_neg hln,hk];have he0:st.e=0:=h.e;cases hc:cutF m.left k with
 | wait=>
  have hn:nextN S k st=(st.fail 2 S.length,⟨#[]⟩):=by
   unfold nextN;rw[if_neg (by rw[he0];simp),← h.left,hc]
  have hf:st.fail 2 S.length=⟨st.pos,2,S.length,st.l⟩:=by unfold Ns.fail;rw[if_pos he0]
  rw[hn,hf,hd _ _ (by simp)];simp only[takenI,impEnd];rw[if_neg hln];show noR A 2 S.length=noR A 2 (m.pos+m.left.length);rw[hl]
 | bad e=>
  have hn:nextN S k st=(st.fail e st.pos,⟨#[]⟩):=by
   unfold nextN;rw[if_neg (by rw[he0];simp),← h.left,hc]
  have hf:st.fail e st.pos=⟨st.pos,e,st.pos,st.l⟩:=by unfold Ns.fail;rw[if_pos he0]
  have hne:e≠0:=by rcases cutF_bad hc with rfl | rfl <;> decide
  rw[hn,hf,hd _ _ hne];simp only[takenI];rw[h.pos]
 | ok t rest n=>
  have hn:nextN S k st=(⟨st.pos+n,st.e,st.bad,st.l⟩,⟨t.toArray⟩):=by
   unfold nextN;rw[if_neg (by rw[he0];simp),← h.left,hc]
  rw[hn,hG t rest n hc];simp only[takenI];cases takeI m ⟨t.toArray⟩ <;> rfl
theorem sim_words {A:List Ent} {S:Bs} {st:Ns} {m:IS} {may:List ByteArray} (h:AtI S st m) (hln:m.ln≠0) (hk:m.most=8) (G:Ns→ByteArray→Res) (hd:∀st' x,st'.e≠0→G st' x=noR A st'.e st'.bad)
  (hno:∀t:ByteArray,¬ t∈may→takeI m t=.err 5)
  (hG:∀t rest n,cutF m.left 8=.ok t rest n→(⟨t.toArray⟩:ByteArray)∈may→G ⟨st.pos+n,st.e,st.bad,st.l⟩ ⟨t.toArray⟩=match takeI m ⟨t.toArray⟩ with | .err e=>noR A e m.pos | .more m'=>fin A {m' with left:=rest,pos:=m.pos+n}) :
  G (wordN S may st).1 (wordN S may st).2=fin A m:=by
 have key:=sim_next (A:=A) (k:=8) h hln hk (fun st' x=>if hasB x may=true∧st'.e=0 then G st' x else G (st'.fail 5 st.pos) ⟨#[]⟩) (fun st' x hs=>by
  show (if _ then _ else _)=_;rw[if_neg (fun hc=>hs hc.2),fail_dead hs,hd _ _ hs]) (fun t rest n hc=>by
  show (if _ then _ else _)=_
  by_cases hm:(⟨t.toArray⟩:ByteArray)∈may
  ·rw[if_pos ⟨(hasB_iff _ _).2 hm,h.e⟩];exact hG t rest n hc hm
  ·rw[if_neg (fun hh=>hm ((hasB_iff _ _).1 hh.1)),hno _ hm];have hf:(⟨st.pos+n,st.e,st.bad,st.l⟩:Ns).fail 5 st.pos=⟨st.pos+n,5,st.pos,st.l⟩:=by unfold Ns.fail;rw[if_pos h.e]
   rw[hf,hd _ _ (by simp)];show noR A 5 st.pos=noR A 5 m.pos;rw[h.pos])
 rw[← key];unfold wordN
 by_cases hc:hasB (nextN S 8 st).2 may=true∧(nextN S 8 st).1.e=0
 ·rw[if_pos hc,if_pos hc]
 ·rw[if_neg hc,if_neg hc]
theorem fin_tree (A:List Ent):∀(f:Nat) (K:List It) (l:Bs) (pos:Nat) (g:Gr) (all:List Ent) (came added refs:List ByteArray),l.length≤f→fin A ⟨l,pos,.tree K,all,came,added,refs,g⟩=match exec f K ⟨l,pos,g⟩ with
  | .no e p=>noR A e p
  | .yes z=>fin A ⟨z.left,z.pos,.tree [],all,came,added,refs,z.gr⟩
 | f,[],l,pos,g,all,came,added,refs,h=>by cases f <;> rfl
 | 0,i :: K,l,pos,g,all,came,added,refs,h=>by
  have h0:l=[]:=List.eq_nil_of_length_eq_zero (by omega);subst h0;rw[fin_step];have hs:stepI ⟨[],pos,.tree (i :: K),all,came,added,refs,g⟩=.stop:=by
   unfold stepI;rw[if_neg (by simp[IS.ln])];simp[cutF,takenI]
  rw[hs];simp[exec,impEnd,IS.ln,noR]
 | f+1,i :: K,l,pos,g,all,came,added,refs,h=>by
  rw[fin_step];have hln:¬ IS.ln ⟨l,pos,.tree (i :: K),all,came,added,refs,g⟩=0:=by simp[IS.ln]
  have hm:IS.most ⟨l,pos,.tree (i :: K),all,came,added,refs,g⟩=i.most:=rfl;simp only[stepI,if_neg hln,hm,exec,one];cases hc:cutF l i.most with
  | wait=>simp only[takenI,impEnd,if_neg hln,Ex.then];rfl
  | bad e=>simp only[takenI,Ex.then]
  | ok s rest n=>
   have hl:=cutF_len hc;simp only[takenI,takeI];cases hF:takeF g i ⟨s.toArray⟩ with
   | err e=>simp only[Ex.then]
   | more g' push=>
    simp only[Ex.then];exact fin_tree A f (push++K) rest (pos+n) g' all came added refs (by omega)
theorem ne_none_ref:¬ (⟨#[]⟩:ByteArray)=wRef:=by decide
theorem ne_none_path:¬ (⟨#[]⟩:ByteArray)=wPath:=by decide
theorem ne_sum_ref:¬ wSum=wRef:=by decide
theorem ne_end_path:¬ wEnd=wPath:=by decide
theorem refsN_dead {S:Bs} {A:List Ent} {p:ByteArray} {refs:List ByteArray} {st:Ns} (h:st.e≠0):∀f,refsN S A p f refs st=(st,refs)
 | 0=>refsN_zero _ _ _ _ _
 | f+1=>by
  rw[refsN_succ,word_dead h,if_neg ne_none_ref]
def docEnd (A:List Ent) (S:Bs) (d:Dm):Res:=
 if (d.st.failIf (decide (d.st.pos<S.length)) 10 d.st.pos).e=0 then ((d.fresh,0,0),d.l) else noR A (d.st.failIf (decide (d.st.pos<S.length)) 10 d.st.pos).e (d.st.failIf (decide (d.st.pos<S.length)) 10 d.st.pos).bad
theorem docEnd_dead {A:List Ent} {S:Bs} {d:Dm} (h:d.st.e≠0):docEnd A S d=noR A d.st.e d.st.bad:=by
 unfold docEnd;rw[failIf_dead h,if_neg h]
theorem impN_dead {A:List Ent} {S:Bs} {d:Dm} (h:d.st.e≠0) (f:Nat):docEnd A S (impN S f d)=noR A d.st.e d.st.bad:=by
 cases f with
 | zero=>rw[impN_zero];exact docEnd_dead h
 | succ f=>
  rw[impN_succ,word_dead h,if_neg ne_none_path];exact docEnd_dead (d:={d with st:=d.st}) h
theorem failIf_false (st:Ns) (e:Int) (p:Nat):st.failIf false e p=st:=rfl
theorem failIf_true {st:Ns} (h:st.e=0) (e:Int) (p:Nat):st.failIf true e p=⟨st.pos,e,p,st.l⟩:=by
 show st.fail e p=_;unfold Ns.fail;rw[if_pos h]
theorem lastS_get' (l:List ByteArray) (k:Nat) (h:l.length=k+1):lastS l=l[k]'(by omega):=by simp[lastS,h,List.getD]
theorem riseL_get {l:List ByteArray} (h:riseL l=true) (j:Nat) (hj:j+1<l.length):notAbove l[j+1] l[j]=false:=by
 cases hn:notAbove l[j+1] l[j] with
 | false=>rfl
 | true=>rw[riseL_no j hj hn]at h;cases h
theorem lastS_snoc (l:List ByteArray) (x:ByteArray):lastS (l++[x])=x:=by simp[lastS,List.getD]
section
variable {A:List Ent} {S:Bs}
def KQ3 (A:List Ent) (S:Bs) (f:Nat) (d:Dm) (p:ByteArray) (st:Ns) (refs:List ByteArray):Res:=
 docEnd A S (if (nextN S 8 st).1.e=0 then impN S f (keepN d (nextN S 8 st).1 p (nextN S 8 st).2 refs st.pos) else {d with st:=(nextN S 8 st).1})
theorem KQ3_dead {f:Nat} {d:Dm} {p:ByteArray} {st:Ns} {refs:List ByteArray} (h:st.e≠0):KQ3 A S f d p st refs=noR A st.e st.bad:=by
 unfold KQ3;rw[next_dead h,if_neg h];exact docEnd_dead h
structure EntS (S:Bs) (d:Dm) (m:IS):Prop where
 at_:AtI S d.st m
 ph:m.ph=.ent
 all:m.all=d.l
 came:m.came=d.came
 added:m.added=d.fresh
structure InS (d:Dm) (p:ByteArray) (st:Ns) (refs:List ByteArray) (m:IS):Prop where
 all:m.all=d.l
 came:m.came=d.came++[p]
 added:m.added=d.fresh
 refs:m.refs=refs
 nodes:m.g.nodes=st.l
theorem sim3 {f:Nat} {d:Dm} {p:ByteArray} {st:Ns} {refs:List ByteArray} {m:IS} (IH:∀d' m',EntS S d' m'→m'.left.length<f→docEnd A S (impN S f d')=fin A m') (h:AtI S st m) (hph:m.ph=.sum) (hI:InS d p st refs m) (hlen:m.left.length<f+8):KQ3 A S f d p st refs=fin A m:=by
 obtain ⟨l,pos,ph,all,came,added,mrefs,g⟩:=m;obtain ⟨i1,i2,i3,i4,i5⟩:=hI;simp only at hph i1 i2 i3 i4 i5;subst hph i1 i2 i3 i4;refine sim_next (G:=fun st' x=>docEnd A S (if st'.e=0 then impN S f (keepN d st' p x mrefs st.pos) else {d with st:=st'})) h (by simp[IS.ln]) rfl (fun st' x hs=>?_) (fun t rest n hc=>?_)
 ·show docEnd A S (if st'.e=0 then _ else _)=_;rw[if_neg hs];exact docEnd_dead hs
 ·have hcl:=cutF_len hc;simp only at hcl hlen;have he0:(⟨st.pos+n,st.e,st.bad,st.l⟩:Ns).e=0:=h.e;show docEnd A S (if (⟨st.pos+n,st.e,st.bad,st.l⟩:Ns).e=0 then _ else _)=_;rw[if_pos he0,takeI_sum,lastS_snoc,i5];have hp:st.pos=pos:=h.pos.symm;have dead:∀(e:Int),e≠0→∀d':Dm,d'.st=⟨st.pos+n,e,st.pos,st.l⟩→docEnd A S (impN S f d')=noR A e pos:=fun e he d' hd'=>by
   rw[impN_dead (by rw[hd'];exact he),hd'];show noR A e st.pos=_;rw[hp]
  by_cases hs:(⟨t.toArray⟩:ByteArray)=sumG g
  ·rw[if_pos hs];have hs':(⟨t.toArray⟩:ByteArray)=sumO (packB st.l):=by rw[hs];unfold sumG;rw[i5]
   by_cases hz:(putS d.l ⟨p,st.l,mrefs⟩).1=0
   ·rw[if_pos hz];simp only;have hst:(keepN d ⟨st.pos+n,st.e,st.bad,st.l⟩ p ⟨t.toArray⟩ mrefs st.pos).st=⟨st.pos+n,st.e,st.bad,st.l⟩:=by
     simp only[keepN];rw[hz,decide_eq_true hs'];rfl
    have hl2:(if (findS d.l p).isNone=true then insS ⟨p,st.l,mrefs⟩ d.l else d.l)=(putS d.l ⟨p,st.l,mrefs⟩).2:=by
     unfold putS at hz ⊢;simp only at hz ⊢;cases hf:findS d.l p with
     | some e=>simp
     | none=>
      rw[hf]at hz;simp only at hz ⊢
      split at hz
      ·cases hz
      ·rename_i h10
       rw[if_neg h10];simp
    refine IH _ _ ⟨?_,rfl,hl2.symm,rfl,rfl⟩ (by show rest.length<f;omega);rw[hst];exact AtI.go (m':=⟨l,pos,.ent,(putS d.l ⟨p,st.l,mrefs⟩).2,d.came++[p],if (findS d.l p).isNone=true then d.fresh++[p] else d.fresh,mrefs,g⟩) h hc
   ·rw[if_neg hz];simp only;have h1214:(putS d.l ⟨p,st.l,mrefs⟩).1=12∨(putS d.l ⟨p,st.l,mrefs⟩).1=14:=by
     rcases putS_err (S:=d.l) (x:=⟨p,st.l,mrefs⟩) with h1 | h1 | h1
     ·exact absurd h1 hz
     ·exact .inl h1
     ·exact .inr h1
    refine dead _ hz _ ?_;simp only[keepN];rw[decide_eq_true hs'];rcases h1214 with h1 | h1
    ·rw[h1];show ((Ns.failIf _ false 16 st.pos).failIf (decide ((12:Int)=12)) 12 st.pos).failIf (decide ((12:Int)=14)) 14 st.pos=_;rw[failIf_false,decide_eq_true rfl,failIf_true he0];rfl
    ·rw[h1];show ((Ns.failIf _ false 16 st.pos).failIf (decide ((14:Int)=12)) 12 st.pos).failIf (decide ((14:Int)=14)) 14 st.pos=_;rw[failIf_false,show decide ((14:Int)=12)=false from rfl,failIf_false,decide_eq_true rfl,failIf_true he0]
  ·rw[if_neg hs];simp only;have hs':¬ (⟨t.toArray⟩:ByteArray)=sumO (packB st.l):=fun e=>hs (by rw[e];unfold sumG;rw[i5])
   refine dead 16 (by decide) _ ?_;simp only[keepN];rw[decide_eq_false hs'];show (Ns.failIf (Ns.failIf (Ns.failIf _ true 16 st.pos) _ 12 st.pos) _ 14 st.pos)=_;have hx:(⟨st.pos+n,16,st.pos,st.l⟩:Ns).e≠0:=by simp
   rw[failIf_true he0,failIf_dead hx,failIf_dead hx]
theorem riseL_snoc {refs:List ByteArray} {x:ByteArray} (h:riseL refs=true):riseL (refs++[x])=!lowR refs x:=by
 unfold lowR;cases hn:refs.length with
 | zero=>
  have:refs=[]:=List.eq_nil_of_length_eq_zero hn;subst this;rfl
 | succ k=>
  rw[lastS_get' refs k hn];have hk:k<refs.length:=by omega
  have hx:(refs++[x])[k+1]'(by simp;omega)=x:=by
   rw[List.getElem_append_right (by omega)];simp[hn]
  have hl:(refs++[x])[k]'(by simp;omega)=refs[k]:=List.getElem_append_left hk;cases hna:notAbove x refs[k] with
  | true=>rw[riseL_no k (by simp;omega) (by rw[hx,hl];exact hna)];simp
  | false=>
   rw[riseL_yes (fun j hj=>?_)]
   ·simp
   ·rw[List.length_append,List.length_singleton]at hj
    by_cases hjk:j=k
    ·subst hjk;rw[hx,hl];exact hna
    ·rw[List.getElem_append_left (by omega),List.getElem_append_left (by omega)];exact riseL_get h j (by omega)
theorem rstep_dead {B:List Ent} {p:ByteArray} {f q:Nat} {refs:List ByteArray} {x:Ns × ByteArray} (h:x.1.e≠0):(rstep S B p f refs q x).1=x.1:=by
 unfold rstep;rw[failIf_dead h,failIf_dead h,refsN_dead h]
theorem sim2 {f:Nat} {d:Dm} {p:ByteArray} (IH:∀d' m',EntS S d' m'→m'.left.length<f→docEnd A S (impN S f d')=fin A m'):∀(f2:Nat) (refs:List ByteArray) (st:Ns) (m:IS),AtI S st m→m.ph=.refs→InS d p st refs m→riseL refs=true→m.left.length<f2→m.left.length<f+8→KQ3 A S f d p (refsN S d.l p f2 refs st).1 (refsN S d.l p f2 refs st).2=fin A m:=by
 intro f2
 induction f2 with
 | zero=>intro _ _ _ _ _ _ _ hl _;omega
 | succ f2 ih2=>
  intro refs st m h hph hI hr hl hlf;obtain ⟨l,pos,ph,all,came,added,mrefs,g⟩:=m;obtain ⟨i1,i2,i3,i4,i5⟩:=hI;simp only at hph i1 i2 i3 i4 i5 hl hlf;subst hph i1 i2 i3 i4;have key:=sim_words (A:=A) (may:=[wRef,wSum]) h (by simp[IS.ln]) rfl (fun st' x=>if x=wRef then KQ3 A S f d p (rstep S d.l p f2 mrefs st'.pos (nextN S 12 st')).1 (rstep S d.l p f2 mrefs st'.pos (nextN S 12 st')).2 else KQ3 A S f d p st' mrefs)
   (fun st' x hs=>by
    show (if _ then _ else _)=_
    split
    ·have hx:(nextN S 12 st').1.e≠0:=by rw[next_dead hs];exact hs
     rw[rstep_dead hx,KQ3_dead hx,next_dead hs]
    ·exact KQ3_dead hs)
   (fun t ht=>by
    simp only[List.mem_cons,List.not_mem_nil,or_false,not_or]at ht;simp only[takeI,if_neg ht.1,if_neg ht.2])
   (fun t rest n hc hm=>by
    have hcl:=cutF_len hc;simp only at hcl;simp only[List.mem_cons,List.not_mem_nil,or_false]at hm;rcases hm with hm | hm
    ·show (if _ then _ else _)=_;rw[if_pos hm];simp only[takeI,if_pos hm];have hA:=AtI.go (m':=⟨l,pos,.ref,d.l,d.came++[p],d.fresh,mrefs,g⟩) h hc;refine sim_next (A:=A) (k:=12) (m:=⟨rest,pos+n,.ref,d.l,d.came++[p],d.fresh,mrefs,g⟩) hA (by simp[IS.ln]) rfl (fun st' x=>KQ3 A S f d p (rstep S d.l p f2 mrefs (st.pos+n) (st',x)).1 (rstep S d.l p f2 mrefs (st.pos+n) (st',x)).2) (fun st' x hs=>?_) (fun t2 rest2 n2 hc2=>?_)
     ·have hx:((st',x):Ns × ByteArray).1.e≠0:=hs;show KQ3 A S f d p _ _=_;rw[rstep_dead hx,KQ3_dead hs]
     ·have hcl2:=cutF_len hc2;simp only at hcl2;have hA2:=AtI.go (m':=⟨rest,pos+n,.refs,d.l,d.came++[p],d.fresh,mrefs++[⟨t2.toArray⟩],g⟩) hA hc2;have he2:(⟨st.pos+n+n2,st.e,st.bad,st.l⟩:Ns).e=0:=h.e;have hq:st.pos+n=pos+n:=by have:=h.pos;simp only at this;omega
      rw[takeI_ref,lastS_snoc,riseL_snoc hr];cases hlow:lowR mrefs ⟨t2.toArray⟩ with
      | true=>
       rw[if_pos (by simp)];have hx:((⟨st.pos+n+n2,7,st.pos+n,st.l⟩:Ns)).e≠0:=by simp
       show KQ3 A S f d p _ _=noR A 7 (pos+n);unfold rstep;simp only;rw[hlow,failIf_true he2,failIf_dead hx,refsN_dead hx,KQ3_dead hx];show noR A 7 (st.pos+n)=_;rw[hq]
      | false=>
       rw[if_neg (by simp)];cases hlk:lackS d.l p ⟨t2.toArray⟩ with
       | true=>
        rw[if_pos rfl];have hx:((⟨st.pos+n+n2,13,st.pos+n,st.l⟩:Ns)).e≠0:=by simp
        show KQ3 A S f d p _ _=noR A 13 (pos+n);unfold rstep;simp only;rw[hlow,failIf_false,hlk,failIf_true he2,refsN_dead hx,KQ3_dead hx];show noR A 13 (st.pos+n)=_;rw[hq]
       | false=>
        rw[if_neg (by simp)];show KQ3 A S f d p _ _=fin A ⟨rest2,pos+n+n2,.refs,d.l,d.came++[p],d.fresh,mrefs++[⟨t2.toArray⟩],g⟩;unfold rstep;simp only;rw[hlow,failIf_false,hlk,failIf_false];exact ih2 (mrefs++[⟨t2.toArray⟩]) ⟨st.pos+n+n2,st.e,st.bad,st.l⟩ ⟨rest2,pos+n+n2,.refs,d.l,d.came++[p],d.fresh,mrefs++[⟨t2.toArray⟩],g⟩ hA2 rfl ⟨rfl,rfl,rfl,rfl,i5⟩ (by rw[riseL_snoc hr,hlow];rfl) (by show rest2.length<f2;omega) (by show rest2.length<f+8;omega)
    ·show (if _ then _ else _)=_;rw[if_neg (by rw[hm];exact ne_sum_ref)];simp only[takeI,if_pos hm,if_neg (show ¬ (⟨t.toArray⟩:ByteArray)=wRef by rw[hm];exact ne_sum_ref)];exact sim3 IH (AtI.go (m':=⟨l,pos,.sum,d.l,d.came++[p],d.fresh,mrefs,g⟩) h hc) rfl ⟨rfl,rfl,rfl,rfl,i5⟩ (by show rest.length<f+8;omega))
  rw[← key,refsN_succ]
  split <;> rfl
def KQ2 (A:List Ent) (S:Bs) (f:Nat) (d:Dm) (p:ByteArray) (st:Ns):Res:=KQ3 A S f d p (refsN S d.l p (S.length+1) [] st).1 (refsN S d.l p (S.length+1) [] st).2
theorem KQ2_dead {f:Nat} {d:Dm} {p:ByteArray} {st:Ns} (h:st.e≠0):KQ2 A S f d p st=noR A st.e st.bad:=by
 unfold KQ2;rw[refsN_dead h];exact KQ3_dead h
theorem sim1 {f:Nat} {d:Dm} {p:ByteArray} {st:Ns} {m:IS} (IH:∀d' m',EntS S d' m'→m'.left.length<f→docEnd A S (impN S f d')=fin A m') (h:AtI S st m) (hm:m=⟨m.left,m.pos,.tree [.word wNar,.bracket],d.l,d.came++[p],d.fresh,[],g0⟩) (hlf:m.left.length<f+8):KQ2 A S f d p (mustN S wRefs (treeAt S st))=fin A m:=by
 have hl:=h.len;rw[hm,fin_tree A m.left.length _ _ _ _ _ _ _ _ (Nat.le_refl _)];have hs:=sim_tree (S:=S) h.e h.le;have hrun:exec m.left.length [.word wNar,.bracket] ⟨m.left,m.pos,g0⟩=run [.word wNar,.bracket] ⟨S.drop st.pos,st.pos,g0⟩:=by rw[h.left,h.pos];rfl
 rw[hrun];cases hr:run [.word wNar,.bracket] ⟨S.drop st.pos,st.pos,g0⟩ with
 | no e p'=>
  rw[hr]at hs;obtain ⟨h1,h2,h3⟩:=hs;have hx:(treeAt S st).e≠0:=by rw[h2];exact h1
  simp only;rw[must_dead hx,KQ2_dead hx,h2,h3]
 | yes z=>
  rw[hr]at hs;obtain ⟨hA,hq1,hq2,hq3⟩:=hs;have hzl:=run_len _ _ _ hr;simp only at hzl ⊢;have hzl':z.left.length≤m.left.length:=by rw[h.left];exact hzl
  have hAI:AtI S (treeAt S st) ⟨z.left,z.pos,.tree [],d.l,d.came++[p],d.fresh,[],z.gr⟩:=⟨hA.e,hA.left,hA.pos,hA.le⟩;refine sim_words (A:=A) (may:=[wRefs]) hAI (by simp[IS.ln]) rfl (fun st' _=>KQ2 A S f d p st') (fun st' _ hs=>KQ2_dead hs) (fun t ht=>?_) (fun t rest n hc hmm=>?_)
  ·simp only[List.mem_singleton]at ht;simp only[takeI,if_neg ht]
  ·simp only[List.mem_singleton]at hmm;simp only[takeI,if_pos hmm];have hcl:=cutF_len hc;simp only at hcl;have hA3:=AtI.go (m':=⟨z.left,z.pos,.refs,d.l,d.came++[p],d.fresh,[],z.gr⟩) hAI hc;have hlen3:=hA3.len;simp only at hlen3;exact sim2 IH (S.length+1) [] _ _ hA3 rfl ⟨rfl,rfl,rfl,rfl,hq2.symm⟩ rfl (by show rest.length<S.length+1;omega) (by show rest.length<f+8;omega)
def KQ0 (A:List Ent) (S:Bs) (f:Nat) (d:Dm) (st:Ns):Res:=docEnd A S (match entN S d st with | .inl d'=>impN S f d' | .inr st=>{d with st:=st})
theorem KQ0_eq (f:Nat) (d:Dm) (st:Ns):KQ0 A S f d st=KQ2 A S f d (nextN S 12 st).2 (mustN S wRefs (treeAt S (((nextN S 12 st).1.failIf (!isPathB (nextN S 12 st).2.data.toList) 11 st.pos).failIf (inL d.came (nextN S 12 st).2) 7 st.pos))):=by
 unfold KQ0 KQ2 KQ3 entN headI;simp only
 split <;> rename_i hc
 ·rename_i d'
  split at hc
  ·rename_i he
   injection hc with hc
   rw[if_pos he,hc]
  ·cases hc
 ·split at hc
  ·cases hc
  ·rename_i he
   injection hc with hc
   rw[if_neg he,hc]
theorem KQ0_dead {f:Nat} {d:Dm} {st:Ns} (h:st.e≠0):KQ0 A S f d st=noR A st.e st.bad:=by
 rw[KQ0_eq,next_dead h];simp only;rw[failIf_dead h,failIf_dead h];obtain ⟨h1,h2⟩:=treeAt_dead (S:=S) h;have hx:(treeAt S st).e≠0:=by rw[h1];exact h
 rw[must_dead hx,KQ2_dead hx,h1,h2]
theorem sim0 {f:Nat} {d:Dm} {st:Ns} {m:IS} (IH:∀d' m',EntS S d' m'→m'.left.length<f→docEnd A S (impN S f d')=fin A m') (h:AtI S st m) (hph:m.ph=.path) (h1:m.all=d.l) (h2:m.came=d.came) (h3:m.added=d.fresh) (hlf:m.left.length<f+8):KQ0 A S f d st=fin A m:=by
 obtain ⟨l,pos,ph,all,came,added,mrefs,g⟩:=m;simp only at hph h1 h2 h3 hlf;subst hph h1 h2 h3;rw[KQ0_eq];have dead:∀(e:Int),e≠0→∀(x:ByteArray) (st':Ns),st'.e=e→∀q,st'.bad=q→KQ2 A S f d x (mustN S wRefs (treeAt S st'))=noR A e q:=fun e he x st' h1 q h2=>by
  have hs:st'.e≠0:=by rw[h1];exact he
  obtain ⟨h3,h4⟩:=treeAt_dead (S:=S) hs;have hx:(treeAt S st').e≠0:=by rw[h3];exact hs
  rw[must_dead hx,KQ2_dead hx,h3,h4,h1,h2]
 refine sim_next (A:=A) (k:=12) h (by simp[IS.ln]) rfl (fun st' x=>KQ2 A S f d x (mustN S wRefs (treeAt S ((st'.failIf (!isPathB x.data.toList) 11 st.pos).failIf (inL d.came x) 7 st.pos)))) (fun st' x hs=>?_) (fun t rest n hc=>?_)
 ·show KQ2 A S f d x _=_;rw[failIf_dead hs,failIf_dead hs];exact dead _ hs x st' rfl _ rfl
 ·have hcl:=cutF_len hc;simp only at hcl;have he0:(⟨st.pos+n,st.e,st.bad,st.l⟩:Ns).e=0:=h.e;have hp:st.pos=pos:=h.pos.symm;rw[takeI_path];show KQ2 A S f d _ _=_;cases hi:isPathB (⟨t.toArray⟩:ByteArray).data.toList with
  | false=>
   have hx:(⟨st.pos+n,11,st.pos,st.l⟩:Ns).e≠0:=by simp
   rw[if_pos rfl,Bool.not_false,failIf_true he0,failIf_dead hx];exact dead 11 (by decide) _ _ rfl _ hp
  | true=>
   rw[if_neg (by simp),Bool.not_true,failIf_false];cases hin:inL d.came ⟨t.toArray⟩ with
   | true=>
    rw[if_pos rfl,failIf_true he0];exact dead 7 (by decide) _ _ rfl _ hp
   | false=>
    rw[if_neg (by simp),failIf_false];exact sim1 IH (AtI.go (m':=⟨l,pos,.tree [.word wNar,.bracket],d.l,d.came++[⟨t.toArray⟩],d.fresh,[],g0⟩) h hc) rfl (by show rest.length<f+8;omega)
def st_pos (d:Dm) (n:Nat):Nat:=d.st.pos+n
theorem sim_imp:∀(f:Nat) (d:Dm) (m:IS),EntS S d m→m.left.length<f→docEnd A S (impN S f d)=fin A m:=by
 intro f
 induction f with
 | zero=>intro _ _ _ h;omega
 | succ f ihf=>
  intro d m h hl;obtain ⟨hA,hph,h1,h2,h3⟩:=h;obtain ⟨l,pos,ph,all,came,added,mrefs,g⟩:=m;simp only at hph h1 h2 h3 hl;subst hph h1 h2 h3;have key:=sim_words (A:=A) (may:=[wPath,wEnd]) hA (by simp[IS.ln]) rfl (fun st' x=>if x=wPath then KQ0 A S f d st' else docEnd A S {d with st:=st'})
   (fun st' x hs=>by
    show (if _ then _ else _)=_
    split
    ·exact KQ0_dead hs
    ·exact docEnd_dead hs)
   (fun t ht=>by
    simp only[List.mem_cons,List.not_mem_nil,or_false,not_or]at ht;simp only[takeI,if_neg ht.1,if_neg ht.2])
   (fun t rest n hc hm=>by
    have hcl:=cutF_len hc;simp only at hcl;simp only[List.mem_cons,List.not_mem_nil,or_false]at hm;rcases hm with hm | hm
    ·show (if _ then _ else _)=_;rw[if_pos hm];simp only[takeI,if_pos hm];exact sim0 ihf (AtI.go (m':=⟨l,pos,.path,d.l,d.came,d.fresh,mrefs,g⟩) hA hc) rfl rfl rfl rfl (by show rest.length<f+8;omega)
    ·show (if _ then _ else _)=_;rw[if_neg (by rw[hm];exact ne_end_path)];simp only[takeI,if_pos hm,if_neg (show ¬ (⟨t.toArray⟩:ByteArray)=wPath by rw[hm];exact ne_end_path)];have hA2:=AtI.go (m':=⟨l,pos,.done,d.l,d.came,d.fresh,mrefs,g⟩) hA hc;have hl2:=hA2.len;have he2:=hA2.e;have hp2:=hA2.pos;simp only at hl2 hp2;rw[fin_step];unfold docEnd;simp only
     by_cases hr:rest=[]
     ·have hs:stepI ⟨rest,pos+n,.done,d.l,d.came,d.fresh,mrefs,g⟩=.stop:=by simp[stepI,IS.ln,hr]
      have hlt:¬ st_pos d n<S.length:=by unfold st_pos;rw[hr]at hl2;simp at hl2;omega
      rw[hs];unfold st_pos at hlt;rw[decide_eq_false hlt,failIf_false,if_pos he2];simp[impEnd,IS.ln]
     ·have hs:stepI ⟨rest,pos+n,.done,d.l,d.came,d.fresh,mrefs,g⟩=.fail 10 (pos+n):=by simp[stepI,IS.ln,hr]
      have hlt:d.st.pos+n<S.length:=by have:=List.length_pos_iff.2 hr;omega
      rw[hs,decide_eq_true hlt,failIf_true he2,if_neg (by simp)];simp only;rw[hp2])
  rw[← key,impN_succ]
  split <;> rfl
theorem importN_eq (A:List Ent) (S:Bs):importN A S=importF A S:=by
 have e1:importN A S=docEnd A S (impN S (S.length+1) ⟨mustN S wExp ⟨0,0,0,[]⟩,A,[],[]⟩):=rfl;have e2:importF A S=fin A ⟨S,0,.head,A,[],[],[],g0⟩:=by
  unfold importF fin is0;show impEnd A (runG stepI ((⟨[],0,.head,A,[],[],[],g0⟩:IS).left.length+S.length) _)=_;rw[show (⟨[],0,.head,A,[],[],[],g0⟩:IS).left.length+S.length=S.length by simp];rfl
 rw[e1,e2];have hA:AtI S ⟨0,0,0,[]⟩ ⟨S,0,.head,A,[],[],[],g0⟩:=⟨rfl,rfl,rfl,Nat.zero_le _⟩;refine sim_words (A:=A) (may:=[wExp]) hA (by simp[IS.ln]) rfl (fun st' _=>docEnd A S (impN S (S.length+1) ⟨st',A,[],[]⟩)) (fun st' _ hs=>impN_dead hs _) (fun t ht=>?_) (fun t rest n hc hm=>?_)
 ·simp only[List.mem_singleton]at ht;simp only[takeI,if_neg ht]
 ·simp only[List.mem_singleton]at hm;simp only[takeI,if_pos hm];have hcl:=cutF_len hc;simp only at hcl;exact sim_imp (S.length+1) _ _ ⟨AtI.go (m':=⟨S,0,.ent,A,[],[],[],g0⟩) hA hc,rfl,rfl,rfl,rfl⟩ (by show rest.length<S.length+1;omega)
end
theorem reg33_31 (q be offe n cv k:Nat) (yp xp:ByteArray) (ta ra a5 a6:Option Addr) (tn tc rn rc M c5 m6 c6:Nat) (D:Bool) (w:World) (hkl:k<n) (e80:w.cell? ⟨be,offe+k*3,none⟩=some (.string yp)) (e81:w.cell? ⟨be,offe+k*3+1,none⟩=some (.slice ta tn tc)) (e82:w.cell? ⟨be,offe+k*3+2,none⟩=some (.slice ra rn rc)) (q80:w.cell? ⟨q,0,none⟩=some (.string xp)) (q81:w.cell? ⟨q,1,none⟩=some (.slice a5 M c5)) (q82:w.cell? ⟨q,2,none⟩=some (.slice a6 m6 c6))
  (cE:∀V:World,Below w.heap.size w V→Calls Tryz.prog 40 #[.agg #[.string yp,.slice ta tn tc,.slice ra rn rc],.agg #[.string xp,.slice a5 M c5,.slice a6 m6 c6]] V fun e w'=>e=.returned (.bool D)∧Below V.heap.size V w') (u0 u1 u2 u3 u4 u5 u6 u7 u9 u10 u11 u13 u14 u15 u16 u18 u19 u20 u21 u22 u23 u24 u25 u26 u27 u28 u29 u30 u31 u32 u33 u34 u35 u36 u37 u38 u39 u40 u41 u42 u43 u44 u45 u46 u47 u48 u49 u50 u51 u52 u53 u54 u55 u56 u57 u58 u59 u60 u61 u62 u63 u64 u65 u66 u67 u68 u69 u70 u71 u72 u73 u74 u75 u76 u77 u78 u79 u80 u81 u82 u83 u84 u85 u86 u87 u88 u89 u90 u91 u92 u93 u94 u95 u96 u97 u98 u99 u100 u101 u102 u103 u104 u105 u106 u107 u108 u109 u110 u111 u112 u113 u114 u115 u116 u117 u118 u119 u120 u121 u122 u123 u124 u125 u126 u127 u128 u129 u130 u131 u132 u133 u134 u135 u136 u137 u138 u139 u140 u141 u142 u143 u144 u145 u146 u147 u148 u149 u150 u151 u152 u153 u154 u155 u156 u157 u158 u159 u160 u161 u162 u163 u164 u165 u166 u167 u168 u169 u170 u171 u172 u173 u174 u175 u176 u177 u178 u179 u180 u181 u182 u183 u184 u185 u186 u187 u188 u189 u190 u191 u192 u193 u194 u195 u196 u197 u198 u199 u200 u201:Value) :
  Code.wp Tryz.prog (regC Tryz.f33 31) (Exit.then (fun a w'=>(∃v133 v134 v135 v136 v137 v138 v139 v140 v141 v142:Value,a=⟨#[u0,u1,u2,u3,u4,u5,u6,u7,.slice (some ⟨be,offe,none⟩) n cv,u9,u10,u11,.pointer (some ⟨q,0,none⟩),u13,u14,u15,u16,.int .i64 (k:Nat),u18,u19,u20,u21,u22,u23,u24,u25,u26,u27,u28,u29,u30,u31,u32,u33,u34,u35,u36,u37,u38,u39,u40,u41,u42,u43,u44,u45,u46,u47,u48,u49,u50,u51,u52,u53,u54,u55,u56,u57,u58,u59,u60,u61,u62,u63,u64,u65,u66,u67,u68,u69,u70,u71,u72,u73,u74,u75,u76,u77,u78,u79,u80,u81,u82,u83,u84,u85,u86,u87,u88,u89,u90,u91,u92,u93,u94,u95,u96,u97,u98,u99,u100,u101,u102,u103,u104,u105,u106,u107,u108,u109,u110,u111,u112,u113,u114,u115,u116,u117,u118,u119,u120,u121,u122,u123,u124,u125,u126,u127,u128,u129,u130,u131,u132,v133,v134,v135,v136,v137,v138,v139,v140,v141,v142,.bool (!D),u144,u145,u146,u147,u148,u149,u150,u151,u152,u153,u154,u155,u156,u157,u158,u159,u160,u161,u162,u163,u164,u165,u166,u167,u168,u169,u170,u171,u172,u173,u174,u175,u176,u177,u178,u179,u180,u181,u182,u183,u184,u185,u186,u187,u188,u189,u190,u191,u192,u193,u194,u195,u196,u197,u198,u199,u200,u201],[]⟩)∧Below w.heap.size w w') (fun _ _ _=>False)) ⟨#[u0,u1,u2,u3,u4,u5,u6,u7,.slice (some ⟨be,offe,none⟩) n cv,u9,u10,u11,.pointer (some ⟨q,0,none⟩),u13,u14,u15,u16,.int .i64 (k:Nat),u18,u19,u20,u21,u22,u23,u24,u25,u26,u27,u28,u29,u30,u31,u32,u33,u34,u35,u36,u37,u38,u39,u40,u41,u42,u43,u44,u45,u46,u47,u48,u49,u50,u51,u52,u53,u54,u55,u56,u57,u58,u59,u60,u61,u62,u63,u64,u65,u66,u67,u68,u69,u70,u71,u72,u73,u74,u75,u76,u77,u78,u79,u80,u81,u82,u83,u84,u85,u86,u87,u88,u89,u90,u91,u92,u93,u94,u95,u96,u97,u98,u99,u100,u101,u102,u103,u104,u105,u106,u107,u108,u109,u110,u111,u112,u113,u114,u115,u116,u117,u118,u119,u120,u121,u122,u123,u124,u125,u126,u127,u128,u129,u130,u131,u132,u133,u134,u135,u136,u137,u138,u139,u140,u141,u142,u143,u144,u145,u146,u147,u148,u149,u150,u151,u152,u153,u154,u155,u156,u157,u158,u159,u160,u161,u162,u163,u164,u165,u166,u167,u168,u169,u170,u171,u172,u173,u174,u175,u176,u177,u178,u179,u180,u181,u182,u183,u184,u185,u186,u187,u188,u189,u190,u191,u192,u193,u194,u195,u196,u197,u198,u199,u200,u201],[]⟩ w:=by
 unfold regC
 conv=>arg 2;whnf
 have HE:=hide cE;have hkz:(0:Int)≤(k:Int):=by omega
 have hdec:decide ((0:Int)≤(k:Int))=true:=decide_eq_true hkz;have hklz:(k:Int)<(n:Int):=by omega
 have HW0:=hide (drewB w);clear cE
 go_region_held3 (fun w'=>w'.cell? ⟨be,offe+k*3,none⟩=some (.string yp)∧w'.cell? ⟨be,offe+k*3+1,none⟩=some (.slice ta tn tc)∧w'.cell? ⟨be,offe+k*3+2,none⟩=some (.slice ra rn rc)∧w'.cell? ⟨q,0,none⟩=some (.string xp)∧w'.cell? ⟨q,1,none⟩=some (.slice a5 M c5)∧w'.cell? ⟨q,2,none⟩=some (.slice a6 m6 c6)) (go_keep) (first
  | (go_at_call 40;refine (HE.out _ HW0.out).mono ?_;rintro e w9 ⟨rfl,hb9⟩;have HW9:=hide (HW0.out.trans hb9);have g1:=cellB HW9.out e80;have g2:=cellB HW9.out e81;have g3:=cellB HW9.out e82;have g4:=cellB HW9.out q80;have g5:=cellB HW9.out q81;have g6:=cellB HW9.out q82;clear hb9))
 exact ⟨⟨_,_,_,_,_,_,_,_,_,_,rfl⟩,HW9.out⟩
end Go.Proofs.YticfcjmlphhpgaaGreatDoor
