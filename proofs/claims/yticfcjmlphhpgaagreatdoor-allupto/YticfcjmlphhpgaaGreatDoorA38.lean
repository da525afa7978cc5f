import Derived.Test.YticfcjmlphhpgaaGreatDoorRows
import Derived.Test.YticfcjmlphhpgaaGreatDoorA01
import Derived.Test.YticfcjmlphhpgaaGreatDoorA37
import Derived.WalkKit
import Derived.ProofKit
import Derived.OpenShut
import Derived.ShutString
import Derived.ChangeOld
import Derived.Below
import Derived.Deep.Slices
import Derived.Deep.Strs
import Derived.SizedLaws
import Derived.Lib.LaidIn
import Derived.Lib.LaidU8T
import Derived.Deep.DeepHandedRow
import Derived.Deep.DeepWitnessRowRef
set_option maxRecDepth 100000
namespace Go.Proofs.YticfcjmlphhpgaaGreatDoor
open Go.ChangeShapes Go.WideShapes Go.ChangeAt Go.RowKit Go.Deep
theorem list_of {α:Type} {Q:Nat→α→Prop}:∀n:Nat,(∀i,i<n→∃y,Q i y)→∃ns:List α,ns.length=n∧∀i (h:i<ns.length),Q i ns[i]
 | 0,_=>⟨[],rfl,fun i h=>by simp at h⟩
 | n+1,hq=>by
  obtain ⟨ns,hl,ha⟩:=list_of n (fun i hi=>hq i (by omega));obtain ⟨y,hy⟩:=hq n (by omega);refine ⟨ns++[y],by simp[hl],fun i h=>?_⟩
  by_cases hi:i<ns.length
  ·rw[List.getElem_append_left hi];exact ha i hi
  ·have:i=ns.length:=by simp at h;omega
   subst this;simp;rw[hl];exact hy
theorem bk_pos {H:Type} (d:DataW H):1≤Rows.uptoBulk d:=by
 cases d with
 | lit l=>cases l <;> simp[Rows.uptoBulk]
 | _=>simp[Rows.uptoBulk]
theorem bk_mem {H:Type}:∀{l:List (DataW H)} {d:DataW H},d∈l→Rows.uptoBulk d≤Rows.uptoBulkAll l
 | a :: r,d,h=>by
  rw[Rows.uptoBulkAll];rcases List.mem_cons.1 h with rfl | h
  ·omega
  ·have:=bk_mem h;omega
theorem bk_len {H:Type}:∀l:List (DataW H),l.length≤Rows.uptoBulkAll l
 | []=>by simp
 | a :: r=>by
  have:=bk_len r;have:=bk_pos a;rw[Rows.uptoBulkAll,List.length_cons];omega
theorem bk_str {H:Type} (s:ByteArray):Rows.uptoBulk (.lit (.string s.data.toList):DataW H)=s.size+1:=by
 rw[Rows.uptoBulk];have:s.data.toList.length=s.size:=by simp
 omega
theorem bk_slice {H:Type} {es sp:List (DataW H)} {K:Nat} (h:Rows.uptoBulk (.slice es sp:DataW H)≤K):es.length≤K∧∀d∈es,Rows.uptoBulk d≤K:=by
 rw[Rows.uptoBulk]at h;refine ⟨by have:=bk_len es;omega,fun d hd=>by have:=bk_mem hd;omega⟩
theorem Tryz.cells42:Tryz.prog.cellsOf 42=3:=by kernel_rfl
theorem Tryz.cells9:Tryz.prog.cellsOf 9=1:=by kernel_rfl
theorem Tryz.cells40:Tryz.prog.cellsOf 40=1:=by kernel_rfl
theorem Tryz.cells3:Tryz.prog.cellsOf 3=1:=by kernel_rfl
theorem Tryz.cells25:Tryz.prog.cellsOf 25=1:=by kernel_rfl
theorem Tryz.cells26:Tryz.prog.cellsOf 26=1:=by kernel_rfl
theorem Tryz.cells27:Tryz.prog.cellsOf 27=1:=by kernel_rfl
theorem Tryz.cells29:Tryz.prog.cellsOf 29=8:=by kernel_rfl
theorem add_none (b o k:Nat):(⟨b,o,none⟩:Addr).add k=⟨b,o+k,none⟩:=by unfold Addr.add;split <;> simp_all
section
variable {H:Type} {enc:TypeId × Value→H} {W:World} {fuel:Nat}
theorem open_node {cs:List Value} {x:DataW H × List MemPlace} (h:DataW.trod enc Tryz.prog W 0 (fun _=>true) true fuel 42 cs=some x) :
  ∃y:Nd,cs=[.string y.path,.int .i64 y.kind,.string y.data]∧y.path.size≤Rows.uptoBulk x.1∧y.data.size≤Rows.uptoBulk x.1:=by
 obtain ⟨y0,y1,y2,m,rfl,hl,h0,h1,h2⟩:=trod_struct3 Tryz.underlying42 h;rw[Tryz.cells42]at hl;simp only[Tryz.cells9,Tryz.cells40]at h0 h1 h2;obtain ⟨s0,e0,rfl,_⟩:=DataW.trod_string Tryz.underlying9 h0;obtain ⟨k1,e1,rfl,_⟩:=DataW.trod_int Tryz.underlying40 h1;obtain ⟨s2,e2,rfl,_⟩:=DataW.trod_string Tryz.underlying9 h2
 match cs,hl with
 | [a,b,c],_=>
  simp at e0 e1 e2;refine ⟨⟨s0,k1,s2⟩,by rw[e0,e1,e2],?_,?_⟩ <;> (simp only[Rows.uptoBulk,Rows.uptoBulkAll];simp;omega)
theorem open_nodes {v:Value} {x:DataW H × List MemPlace} (h:DataW.trod enc Tryz.prog W 0 (fun _=>true) true fuel 25 [v]=some x) :
  ∃a ns cap,v=.slice a ns.length cap∧SliceN W (.slice a ns.length cap) ns∧∀K,Rows.uptoBulk x.1≤K→ns.length≤K∧∀n∈ns,n.path.size≤K∧n.data.size≤K:=by
 rcases open_slice Tryz.underlying25 h with ⟨hcs,_⟩ | ⟨a,len,cap,m,n,D,Pl,hcs,_,hl,hm,hmm,rfl,hall⟩
 ·simp at hcs;exact ⟨none,[],0,by simpa using hcs,⟨none,0,rfl,by simp,by simp[maxLen],fun _=>rfl,fun h=>by simp at h⟩,fun K _=>⟨by simp,fun n hn=>by cases hn⟩⟩
 ·simp at hcs;subst hcs;have hmm':len≤m:=by rw[hmm];simp;omega
  obtain ⟨ns,rfl,hns⟩:=list_of (Q:=fun i (y:Nd)=>W.cells? 0 (a.add (i*3)) 3=some [.string y.path,.int .i64 y.kind,.string y.data]∧y.path.size≤Rows.uptoBulk (D i)∧y.data.size≤Rows.uptoBulk (D i)) len (fun i hi=>by
   obtain ⟨cs',hc,ht⟩:=hall i (by omega);rw[Tryz.cells42]at hc;obtain ⟨y,e1,e2⟩:=open_node ht;exact ⟨y,by rw[hc,e1],e2⟩)
  refine ⟨some a,ns,cap,rfl,⟨some a,cap,rfl,hl,hm,(fun h=>by cases h),fun hpos=>?_⟩,fun K hK=>?_⟩
  ·have hcell:∀i (hi:i<ns.length),W.cell? ((a.add (i*3)).add 0)=some (.string ns[i].path)∧W.cell? ((a.add (i*3)).add 1)=some (.int .i64 ns[i].kind)∧W.cell? ((a.add (i*3)).add 2)=some (.string ns[i].data):=fun i hi=>by
    have h1:=(World.cells?_some (hns i hi).1).2.2;exact ⟨h1 0 (by omega),h1 1 (by omega),h1 2 (by omega)⟩
   obtain ⟨b,off,spot⟩:=a;have h0:=(hcell 0 hpos).1;have hsp:spot=none:=by simpa[Addr.add] using World.cell?_spot h0
   subst hsp;refine ⟨b,off,rfl,?_,fun i hi=>?_⟩
   ·rw[add_none,add_none]at h0;exact World.block_lt_of_cell? W _ h0
   ·have:=hcell i hi;simp only[add_none,Nat.add_zero]at this;exact this
  ·obtain ⟨h1,h2⟩:=bk_slice hK;simp only[List.length_map,List.length_range]at h1;refine ⟨h1,fun y hy=>?_⟩;obtain ⟨i,hi,rfl⟩:=List.getElem_of_mem hy;have h3:=h2 (D i) (List.mem_map.2 ⟨i,by simp[hi],rfl⟩);have h4:=(hns i hi).2;omega
theorem open_texts {v:Value} {x:DataW H × List MemPlace} (h:DataW.trod enc Tryz.prog W 0 (fun _=>true) true fuel 26 [v]=some x) :
  ∃a ss cap,v=.slice a ss.length cap∧SliceS W (.slice a ss.length cap) ss∧(∀n c,(Value.slice a ss.length cap)=.slice none n c→n=0∧c=0)∧∀K,Rows.uptoBulk x.1≤K→ss.length≤K∧∀s∈ss,s.size≤K:=by
 rcases open_strs Tryz.underlying26 Tryz.underlying9 Tryz.cells9 h with ⟨hcs,_⟩ | ⟨a,len,cap,m,Sx,hcs,_,hl,hm,hmm,rfl,hall⟩
 ·simp at hcs;exact ⟨none,[],0,by simpa using hcs,⟨none,0,rfl,by simp,fun h=>by simp at h⟩,(fun n c e=>by cases e;exact ⟨rfl,rfl⟩),fun K _=>⟨by simp,fun n hn=>by cases hn⟩⟩
 ·simp at hcs;subst hcs;have hmm':len≤m:=by rw[hmm];simp;omega
  obtain ⟨ss,rfl,hss⟩:=list_of (Q:=fun i (y:ByteArray)=>Sx i=y) len (fun i hi=>⟨_,rfl⟩);refine ⟨some a,ss,cap,rfl,⟨some a,cap,rfl,hl,fun hpos=>?_⟩,(fun n c e=>by cases e),fun K hK=>?_⟩
  ·have hcell:∀i (hi:i<ss.length),W.cell? (a.add i)=some (.string ss[i]):=fun i hi=>by rw[← hss i hi];exact (hall i (by omega)).1
   obtain ⟨b,off,spot⟩:=a;have h0:=hcell 0 hpos;have hsp:spot=none:=by simpa[Addr.add] using World.cell?_spot h0
   subst hsp;refine ⟨b,off,rfl,?_,fun i hi=>?_⟩
   ·rw[add_none]at h0;exact World.block_lt_of_cell? W _ h0
   ·have:=hcell i hi;rw[add_none]at this;exact this
  ·obtain ⟨h1,h2⟩:=bk_slice hK;simp only[List.length_map,List.length_range]at h1;refine ⟨h1,fun y hy=>?_⟩;obtain ⟨i,hi,rfl⟩:=List.getElem_of_mem hy;have h3:=h2 _ (List.mem_map.2 ⟨i,by simp[hi],rfl⟩);rw[hss i hi,bk_str]at h3;omega
theorem open_ints {v:Value} {x:DataW H × List MemPlace} (h:DataW.trod enc Tryz.prog W 0 (fun _=>true) true fuel 27 [v]=some x) :
  ∃a,∃(ds:List Int) (cap:Nat),v=.slice a ds.length cap∧SliceI W (.slice a ds.length cap) ds∧∀K,Rows.uptoBulk x.1≤K→ds.length≤K:=by
 rcases open_slice1 Tryz.underlying27 Tryz.cells3 h with ⟨hcs,_⟩ | ⟨a,len,cap,m,n,V,D,Pl,hcs,_,hl,hm,hmm,rfl,hall⟩
 ·simp at hcs;exact ⟨none,[],0,by simpa using hcs,⟨none,0,rfl,by simp,(fun c hc=>by cases hc),(fun h=>by simp at h)⟩,fun K _=>by simp⟩
 ·simp at hcs;subst hcs;have hmm':len≤m:=by rw[hmm];simp;omega
  obtain ⟨cs,rfl,hns⟩:=list_of (Q:=fun i (y:Int)=>W.cell? (a.add i)=some (.int .i64 y)∧(-9223372036854775808≤y∧y≤9223372036854775807)) len (fun i hi=>by
   obtain ⟨hc,ht⟩:=hall i (by omega);obtain ⟨k,e1,_,e2⟩:=DataW.trod_int Tryz.underlying3 ht;simp at e1;exact ⟨k,by rw[hc,e1],bounds_i64 e2⟩)
  refine ⟨some a,cs,cap,rfl,⟨some a,cap,rfl,hl,fun c hc=>?_,fun hpos=>?_⟩,fun K hK=>?_⟩
  ·obtain ⟨i,hi,rfl⟩:=List.getElem_of_mem hc;exact (hns i hi).2
  ·obtain ⟨b,off,spot⟩:=a;have h0:=(hns 0 hpos).1;have hsp:spot=none:=by simpa[Addr.add] using World.cell?_spot h0
   subst hsp;refine ⟨b,off,rfl,?_,fun i hi=>?_⟩
   ·rw[add_none]at h0;exact World.block_lt_of_cell? W _ h0
   ·have:=(hns i hi).1;rw[add_none]at this;exact this
  ·obtain ⟨h1,h2⟩:=bk_slice hK;simpa using h1
theorem eight_of {α:Type} (l:List α) (h:l.length=8):∃a0 a1 a2 a3 a4 a5 a6 a7,l=[a0,a1,a2,a3,a4,a5,a6,a7]:=by
 obtain _ | ⟨a0,_ | ⟨a1,_ | ⟨a2,_ | ⟨a3,_ | ⟨a4,_ | ⟨a5,_ | ⟨a6,_ | ⟨a7,_ | ⟨a8,l⟩⟩⟩⟩⟩⟩⟩⟩⟩:=l <;> simp at h
 exact ⟨a0,a1,a2,a3,a4,a5,a6,a7,rfl⟩
theorem open_op {cs:List Value} {x:DataW H × List MemPlace} (h:DataW.trod enc Tryz.prog W 0 (fun _=>true) true fuel 29 cs=some x) :
  ∃o:Opx,cs=[.int .i64 o.kind,.int .i64 o.ia,.int .i64 o.ic,.string o.s,.string o.b,.slice o.la o.ns.length o.lc,.slice o.ma o.ms.length o.mc,.slice o.da o.ds.length o.dc]∧OpAt W o∧(Rows.uptoBulk x.1≤2097152→OpSz o):=by
 obtain ⟨xs,n,_,rfl,hl,hlen,hf⟩:=DataW.trod_struct Tryz.underlying29 h;rw[Tryz.cells29]at hl;obtain ⟨c0,c1,c2,c3,c4,c5,c6,c7,rfl⟩:=eight_of cs hl;obtain ⟨y0,y1,y2,y3,y4,y5,y6,y7,rfl⟩:=eight_of xs hlen
 focus
  have h0:=hf 0 _ rfl;have h1:=hf 1 _ rfl;have h2:=hf 2 _ rfl;have h3:=hf 3 _ rfl;have h4:=hf 4 _ rfl;have h5:=hf 5 _ rfl;have h6:=hf 6 _ rfl;have h7:=hf 7 _ rfl;simp[Tryz.cells3,Tryz.cells9,Tryz.cells25,Tryz.cells26,Tryz.cells27]at h0 h1 h2 h3 h4 h5 h6 h7;obtain ⟨k0,e0,rfl,w0⟩:=DataW.trod_int Tryz.underlying3 h0;obtain ⟨k1,e1,rfl,w1⟩:=DataW.trod_int Tryz.underlying3 h1;obtain ⟨k2,e2,rfl,w2⟩:=DataW.trod_int Tryz.underlying3 h2;obtain ⟨s3,e3,rfl,_⟩:=DataW.trod_string Tryz.underlying9 h3;obtain ⟨s4,e4,rfl,_⟩:=DataW.trod_string Tryz.underlying9 h4;obtain ⟨a5,n5,p5,rfl,hN,z5⟩:=open_nodes h5;obtain ⟨a6,n6,p6,rfl,hS,hnil,z6⟩:=open_texts h6;obtain ⟨a7,n7,p7,rfl,hI7,z7⟩:=open_ints h7;simp at e0 e1 e2 e3 e4;subst e0 e1 e2 e3 e4;refine ⟨⟨k0,k1,k2,s3,s4,a5,p5,n5,a6,p6,n6,a7,p7,n7⟩,rfl,⟨hN,hS,hnil,bounds_i64 w1,bounds_i64 w2,hI7⟩,fun hb=>?_⟩;simp only[List.map_cons,List.map_nil,Rows.uptoBulk,Rows.uptoBulkAll]at hb;have q3:s3.data.toList.length=s3.size:=by simp
  have q4:s4.data.toList.length=s4.size:=by simp
  exact ⟨by show s3.size≤_;omega,by show s4.size≤_;omega,z5 _ (by omega),z6 _ (by omega),z7 _ (by omega)⟩
theorem open_script {v:Value} {x:DataW H × List MemPlace} (h:DataW.trod enc Tryz.prog W 0 (fun _=>true) true fuel 22 v.cells.toList=some x) (hv:∃a len cap,v=.slice a len cap) (hb:Rows.uptoBulk x.1≤2097152) :
  ∃os,SliceO W v os∧os.length≤2097152∧∀o∈os,OpSz o:=by
 obtain ⟨a0,len0,cap0,rfl⟩:=hv;rcases open_slice Tryz.underlying22 h with ⟨hcs,_⟩ | ⟨a,len,cap,m,n,D,Pl,hcs,_,hl,hm,hmm,rfl,hall⟩
 ·simp[Value.cells]at hcs;obtain ⟨rfl,rfl,rfl⟩:=hcs;exact ⟨[],⟨⟨none,0,rfl,fun h=>by simp at h⟩,fun o ho=>by cases ho⟩,by simp,fun o ho=>by cases ho⟩
 ·simp[Value.cells]at hcs;obtain ⟨rfl,rfl,rfl⟩:=hcs;have hmm':len0≤m:=by rw[hmm];simp;omega
  obtain ⟨os,rfl,hos⟩:=list_of (Q:=fun i (o:Opx)=>W.cells? 0 (a.add (i*8)) 8=some [.int .i64 o.kind,.int .i64 o.ia,.int .i64 o.ic,.string o.s,.string o.b,.slice o.la o.ns.length o.lc,.slice o.ma o.ms.length o.mc,.slice o.da o.ds.length o.dc]∧OpAt W o∧(Rows.uptoBulk (D i)≤2097152→OpSz o)) len0 (fun i hi=>by
   obtain ⟨cs',hc,ht⟩:=hall i (by omega);rw[Tryz.cells29]at hc;obtain ⟨o,e1,e2⟩:=open_op ht;exact ⟨o,by rw[hc,e1],e2⟩)
  obtain ⟨b1,b2⟩:=bk_slice hb;simp only[List.length_map,List.length_range]at b1;refine ⟨os,⟨⟨some a,cap0,rfl,fun hpos=>?_⟩,fun o ho=>?_⟩,b1,fun o ho=>?_⟩
  ·have hcell:∀i (hi:i<os.length) (j:Nat) (c:Value),[Value.int .i64 os[i].kind,.int .i64 os[i].ia,.int .i64 os[i].ic,.string os[i].s,.string os[i].b,.slice os[i].la os[i].ns.length os[i].lc,.slice os[i].ma os[i].ms.length os[i].mc,.slice os[i].da os[i].ds.length os[i].dc][j]?=some c→W.cell? ((a.add (i*8)).add j)=some c:=fun i hi j c hc=>by
    have h1:=(World.cells?_some (hos i hi).1).2.2;have hj:j<8:=by
     have:=(List.getElem?_eq_some_iff.1 hc).1;simpa using this
    rw[h1 j (by omega)];exact hc
   obtain ⟨b,off,spot⟩:=a;have h0:=hcell 0 hpos 0 _ rfl;have hsp:spot=none:=by simpa[Addr.add] using World.cell?_spot h0
   subst hsp;refine ⟨b,off,rfl,?_,fun i hi=>?_⟩
   ·rw[add_none,add_none]at h0;exact World.block_lt_of_cell? W _ h0
   ·have g:=hcell i hi;simp only[add_none]at g;exact ⟨g 0 _ rfl,g 1 _ rfl,g 2 _ rfl,g 3 _ rfl,g 4 _ rfl,g 5 _ rfl,g 6 _ rfl,g 7 _ rfl⟩
  ·obtain ⟨i,hi,rfl⟩:=List.getElem_of_mem ho;exact (hos i hi).2.1
  ·obtain ⟨i,hi,rfl⟩:=List.getElem_of_mem ho;exact (hos i hi).2.2 (b2 (D i) (List.mem_map.2 ⟨i,by simp[hi],rfl⟩))
end
end Go.Proofs.YticfcjmlphhpgaaGreatDoor
namespace Go.Proofs.YticfcjmlphhpgaaGreatDoor
open Go.ChangeShapes Go.WideShapes Go.ChangeAt Go.RowKit Go.Deep Go.Lib
theorem own:ownKnob Tryz.prog.godebug=none:=by kernel_rfl
theorem laidOut:laidOutB Tryz.prog=true:=by kernel_rfl
noncomputable def laidWorld (os:Os):World:=
 let w0:=World.holding Tryz.prog os ⟨#[],#[],[]⟩
 let put (h:Array Obj) (g:Nat) (cs:Array Value):Array Obj:=h.modify g fun
  | .cells _ t frozen=>.cells cs t frozen
  | o=>o
 let h1:=put w0.heap 0 (Lib.firstTab.map fun z=>Value.int .u8 z).toArray
 let h2:=put h1 1 ((List.range 16).flatMap fun i=>[Value.int .u8 (Lib.accLo i),Value.int .u8 (Lib.accHi i)]).toArray
 {w0 with heap:=h2}
theorem laid_met (os:Os) (args:Array Value):laidMet Tryz.prog Rows.insertsUptoRow.laid ((laidWorld os).forCall (fun _ _=>0) ⟨#[],args,[]⟩).memory:=
 (LaidIn.of_run (l:=Rows.insertsUptoRow.laid) [1,0] 8 (by kernel_rfl) (by kernel_rfl) (by kernel_rfl) (by kernel_rfl)).met
theorem first_eq:Rows.laid_unicode_utf8_first=Lib.firstData:=by kernel_rfl
theorem accept_eq:(Rows.laid_unicode_utf8_acceptRanges:DataW Unit)=Lib.acceptData:=by kernel_rfl
theorem tabs_of {W:World} (hL:laidMetH Tryz.prog Rows.insertsUptoRow.laid W):Lib.Utf8Tabs 0 1 W:=by
 have e : Rows.insertsUptoRow.laid = [("unicode/utf8.acceptRanges", Lib.acceptData), ("unicode/utf8.first", Lib.firstData)] := by
  rw[← first_eq,← accept_eq];rfl
 rw[e]at hL;exact utf8Tabs_of_readsT (U8Types.of196 Tryz.laysValid) ⟨by kernel_rfl,by kernel_rfl,by kernel_rfl,by kernel_rfl,by kernel_rfl,by kernel_rfl,by kernel_rfl⟩ (Lib.laidMet.reads hL (.tail _ (.head _))) (Lib.laidMet.reads hL (.head _))
end Go.Proofs.YticfcjmlphhpgaaGreatDoor
