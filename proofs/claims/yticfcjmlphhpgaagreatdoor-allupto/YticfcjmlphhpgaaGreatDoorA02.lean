import Derived.Test.YticfcjmlphhpgaaGreatDoorA01
import Derived.Lib.MapLaws
set_option maxRecDepth 20000
set_option maxHeartbeats 4000000
namespace Go.Proofs.YticfcjmlphhpgaaGreatDoor
open Go.RowKit
structure Nd where
 path:ByteArray
 kind:Int
 data:ByteArray
def NodesAt (w:World) (b off:Nat) (ns:List Nd):Prop:=
 ∀j (h:j<ns.length),w.cell? ⟨b,off+j*3,none⟩=some (.string ns[j].path)∧w.cell? ⟨b,off+j*3+1,none⟩=some (.int .i64 ns[j].kind)∧w.cell? ⟨b,off+j*3+2,none⟩=some (.string ns[j].data)
def SliceN (w:World) (v:Value) (ns:List Nd):Prop:=
 ∃a cap,v=.slice a ns.length cap∧ns.length≤cap∧cap≤maxLen∧(a=none→cap=0)∧(0<ns.length→∃b off,a=some ⟨b,off,none⟩∧b<w.heap.size∧NodesAt w b off ns)
def Small (ns:List Nd):Prop:=ns.length≤1000000∧∀n∈ns,n.path.size≤1000000∧n.data.size≤1000000
theorem NodesAt.below {w w':World} {b off B:Nat} {ns:List Nd} (h:NodesAt w b off ns) (hb:Below B w w') (hB:b<B):NodesAt w' b off ns:=fun j hj=>by
 rw[hb.cell (p:=⟨b,_,none⟩) hB,hb.cell (p:=⟨b,_,none⟩) hB,hb.cell (p:=⟨b,_,none⟩) hB];exact h j hj
theorem NodesAt.tail {w:World} {b off:Nat} {n:Nd} {r:List Nd} (h:NodesAt w b off (n :: r)):NodesAt w b (off+3) r:=fun j hj=>by
 have:=h (j+1) (by simpa using hj);rw[show off+(j+1)*3=off+3+j*3 by omega]at this;exact this
theorem SliceN.below {w w':World} {v:Value} {ns:List Nd} (h:SliceN w v ns) (hb:Below w.heap.size w w'):SliceN w' v ns:=by
 obtain ⟨a,cap,rfl,h1,h2,h3,h4⟩:=h;refine ⟨a,cap,rfl,h1,h2,h3,fun hn=>?_⟩;obtain ⟨b,off,rfl,hlt,hN⟩:=h4 hn;exact ⟨b,off,rfl,by have:=hb.size;omega,hN.below hb hlt⟩
theorem Small.tail {n:Nd} {r:List Nd} (h:Small (n :: r)):Small r:=⟨by have:=h.1;simp at this;omega,fun x hx=>h.2 x (List.mem_cons_of_mem _ hx)⟩
def wOpen:ByteArray:=⟨#[40]⟩
def wClose:ByteArray:=⟨#[41]⟩
def wType:ByteArray:=⟨#[116,121,112,101]⟩
def wExec:ByteArray:=⟨#[101,120,101,99]⟩
def wNone:ByteArray:=⟨#[]⟩
def wData:ByteArray:=⟨#[100,97,116,97]⟩
def wTo:ByteArray:=⟨#[116,111]⟩
def wEntry:ByteArray:=⟨#[101,110,116,114,121]⟩
def wName:ByteArray:=⟨#[110,97,109,101]⟩
def wNode:ByteArray:=⟨#[110,111,100,101]⟩
def wNar:ByteArray:=⟨#[110,97,114,45,49]⟩
def bytesOf (ss:List ByteArray):List UInt8:=encs (ss.map (·.data.toList))
def bodyF (E:List Nd→ByteArray→List UInt8 × List Nd) (n:Nd) (r:List Nd):List UInt8 × List Nd:=
 if n.kind=4 then E r (prefixIn n.path)
 else (if n.kind=2 then bytesOf [wExec,wNone]++bytesOf [wData,n.data] else if n.kind=1 then bytesOf [wData,n.data] else if n.kind=3 then bytesOf [wTo,n.data] else [],r)
def nodeF (E:List Nd→ByteArray→List UInt8 × List Nd) (n:Nd) (r:List Nd):List UInt8 × List Nd:=
 (bytesOf [wOpen,wType,wordOf n.kind]++(bodyF E n r).1++bytesOf [wClose],(bodyF E n r).2)
def entsF:Nat→List Nd→ByteArray→List UInt8 × List Nd
 | 0,l,_=>([],l)
 | _+1,[],_=>([],[])
 | f+1,n :: r,dir=>
  if pre n.path=dir then
   (bytesOf [wEntry,wOpen,wName,nam n.path,wNode]++(nodeF (entsF f) n r).1++bytesOf [wClose]++(entsF f (nodeF (entsF f) n r).2 dir).1,(entsF f (nodeF (entsF f) n r).2 dir).2)
  else ([],n :: r)
def bulk:List Nd→Nat
 | []=>0
 | n :: r=>1000+n.path.size+n.data.size+bulk r
theorem enc_len_le (s:ByteArray):(enc s.data.toList).length≤s.size+16:=by have:=enc_length s.data.toList;simpa using this
theorem wordOf_size (k:Int):(wordOf k).size≤4:=by
 unfold wordOf;split
 ·decide
 ·split <;> decide
theorem nam_size5 (s:ByteArray):(nam s).size≤s.size:=by simp[nam,ByteArray.size_extract]
theorem bytesOf_cons (s:ByteArray) (r:List ByteArray):(bytesOf (s :: r)).length≤s.size+16+(bytesOf r).length:=by
 have:=enc_len_le s;simp only[bytesOf,List.map_cons,encs,List.length_append];omega
theorem bytesOf_nil:(bytesOf []).length=0:=rfl
theorem head_le (k:Int):(bytesOf [wOpen,wType,wordOf k]).length≤60:=by
 have h1:=bytesOf_cons wOpen [wType,wordOf k];have h2:=bytesOf_cons wType [wordOf k];have h3:=bytesOf_cons (wordOf k) [];have h4:=wordOf_size k;have a:wOpen.size=1:=rfl;have b:wType.size=4:=rfl;rw[bytesOf_nil]at h3;omega
theorem close_le:(bytesOf [wClose]).length≤20:=by
 have h1:=bytesOf_cons wClose [];have a:wClose.size=1:=rfl;rw[bytesOf_nil]at h1;omega
theorem entry_le (s:ByteArray):(bytesOf [wEntry,wOpen,wName,nam s,wNode]).length≤120+s.size:=by
 have h1:=bytesOf_cons wEntry [wOpen,wName,nam s,wNode];have h2:=bytesOf_cons wOpen [wName,nam s,wNode];have h3:=bytesOf_cons wName [nam s,wNode];have h4:=bytesOf_cons (nam s) [wNode];have h5:=bytesOf_cons wNode [];have h6:=nam_size5 s;have a:wEntry.size=5:=rfl;have b:wOpen.size=1:=rfl;have c:wName.size=4:=rfl;have d:wNode.size=4:=rfl;rw[bytesOf_nil]at h5;omega
theorem data_le (s:ByteArray):(bytesOf [wData,s]).length≤60+s.size:=by
 have h1:=bytesOf_cons wData [s];have h2:=bytesOf_cons s [];have a:wData.size=4:=rfl;rw[bytesOf_nil]at h2;omega
theorem to_le (s:ByteArray):(bytesOf [wTo,s]).length≤60+s.size:=by
 have h1:=bytesOf_cons wTo [s];have h2:=bytesOf_cons s [];have a:wTo.size=2:=rfl;rw[bytesOf_nil]at h2;omega
theorem exec_le:(bytesOf [wExec,wNone]).length≤60:=by
 have h1:=bytesOf_cons wExec [wNone];have h2:=bytesOf_cons wNone [];have a:wExec.size=4:=rfl;have b:wNone.size=0:=rfl;rw[bytesOf_nil]at h2;omega
theorem nodeF_bulk (E:List Nd→ByteArray→List UInt8 × List Nd) (hE:∀l d,(E l d).1.length+bulk (E l d).2≤bulk l) (n:Nd) (r:List Nd):(nodeF E n r).1.length+bulk (nodeF E n r).2+200+n.path.size≤bulk (n :: r):=by
 have h1:=head_le n.kind;have h2:=close_le;have h3:=data_le n.data;have h4:=to_le n.data;have h5:=exec_le;have h6:=hE r (prefixIn n.path);simp only[nodeF,List.length_append,bulk];unfold bodyF
 split
 ·omega
 ·split
  ·simp only[List.length_append];omega
  ·split
   ·dsimp only;omega
   ·split
    ·dsimp only;omega
    ·simp only[List.length_nil];omega
theorem entsF_bulk:∀(f:Nat) (l:List Nd) (d:ByteArray),(entsF f l d).1.length+bulk (entsF f l d).2≤bulk l
 | 0,l,d=>by simp[entsF]
 | f+1,[],d=>by simp[entsF]
 | f+1,n :: r,d=>by
  have h1:=nodeF_bulk (entsF f) (entsF_bulk f) n r;have h2:=entsF_bulk f (nodeF (entsF f) n r).2 d;have h3:=entry_le n.path;have h4:=close_le;simp only[entsF]
  split
  ·simp only[List.length_append];omega
  ·simp
theorem nodeF_suffix (E:List Nd→ByteArray→List UInt8 × List Nd) (hE:∀l d,(E l d).2 <:+ l) (n:Nd) (r:List Nd):(nodeF E n r).2 <:+ r:=by
 simp only[nodeF,bodyF]
 split
 ·exact hE _ _
 ·exact List.suffix_refl _
theorem entsF_suffix:∀(f:Nat) (l:List Nd) (d:ByteArray),(entsF f l d).2 <:+ l
 | 0,l,d=>List.suffix_refl _
 | f+1,[],d=>List.suffix_refl _
 | f+1,n :: r,d=>by
  simp only[entsF]
  split
  ·exact ((entsF_suffix f _ d).trans (nodeF_suffix (entsF f) (entsF_suffix f) n r)).trans (List.suffix_cons n r)
  ·exact List.suffix_refl _
def SliceB (B:Nat) (w:World) (v:Value) (ns:List Nd):Prop:=
 ∃a cap,v=.slice a ns.length cap∧ns.length≤cap∧cap≤maxLen∧(0<ns.length→∃b off,a=some ⟨b,off,none⟩∧b<B∧NodesAt w b off ns)
theorem SliceB.below {B:Nat} {w w':World} {v:Value} {ns:List Nd} (h:SliceB B w v ns) (hb:Below B w w'):SliceB B w' v ns:=by
 obtain ⟨a,cap,rfl,h1,h2,h4⟩:=h;refine ⟨a,cap,rfl,h1,h2,fun hn=>?_⟩;obtain ⟨b,off,rfl,hlt,hN⟩:=h4 hn;exact ⟨b,off,rfl,hlt,hN.below hb hlt⟩
theorem SliceN.toB {w:World} {v:Value} {ns:List Nd} (h:SliceN w v ns):SliceB w.heap.size w v ns:=by
 obtain ⟨a,cap,rfl,h1,h2,_,h4⟩:=h;exact ⟨a,cap,rfl,h1,h2,h4⟩
theorem Small.suffix {a b:List Nd} (h:Small b) (hs:a <:+ b):Small a:=⟨Nat.le_trans hs.length_le h.1,fun n hn=>h.2 n (hs.subset hn)⟩
theorem conv_oneV (w:World) (n:Int) (c:UInt8) (h:n=(c.toNat:Int)) :
  (convert 95 9 (.slice (some ⟨w.heap.size,0,none⟩) 1 1)).run Tryz.prog (w.alloc (.cells #[.int .u8 n] 5))=.ok (.string ⟨#[c]⟩) (w.alloc (.cells #[.int .u8 n] 5)):=by
 subst h;exact run_convert_bytes_back (P:=Tryz.prog) _ 95 9 5 ⟨w.heap.size,0,none⟩ 1 [c] Tryz.underlying95 Tryz.underlying5 Tryz.underlying9 (fun j hj=>by
  obtain rfl:j=0:=by simp at hj;omega
  exact cell_one_new _ _ _ 0 _ rfl)
theorem add_str (a b:List UInt8) (w:World) (h:a.length+b.length≤9223372036854775807):(Op.stringOp .add ⟨a.toArray⟩ ⟨b.toArray⟩).run Tryz.prog w=.ok (.string ⟨(a++b).toArray⟩) w:=by
 rw[run_string_add_sum]
 ·rw[ByteArray.mk_append_mk]
 ·simpa[ByteArray.size] using h
theorem num_any (n:Int) (w:World) (h0:0≤n) (h1:n<9223372036854775808) :
  Calls Tryz.prog 77 #[.int .i64 n] w fun e w'=>e=.returned (.string ⟨(le n 8).toArray⟩)∧Below w.heap.size w w':=by
 go_enter Tryz.func77,Tryz.ntmps77;go_wp2
 go_loopw [0,3,4] (fun m o i w1=>∃k:Nat,k≤8∧i=.int .i64 k∧m=.int .i64 (n / 2 ^ (8*k))∧Below w.heap.size w w1∧o=.string ⟨(le n k).toArray⟩) (fun _ _ i _=>8 - (intOf i).toNat)
 case atStart=>exact ⟨0,by omega,rfl,by simp,Below.refl _ _,rfl⟩
 case round=>
  obtain ⟨k,hk,rfl,rfl,hbel,rfl⟩:=hrel;have hr:=shift_range n k h0 (by omega);have hr2:n / 2 ^ (8*k)≤n:=Int.ediv_le_self _ h0
  by_cases hlt:k<8
  ·have hcv:=conv_oneV wr (n / 2 ^ (8*k) % 256) (byteAt n k) (byteAt_val n k).symm;have hl:=le_length n k;have hadd:∀w1,(Op.stringOp .add ⟨(le n k).toArray⟩ ⟨#[byteAt n k]⟩).run Tryz.prog w1=.ok (.string ⟨(le n (k+1)).toArray⟩) w1:=fun w1=>by
    have:=add_str (le n k) [byteAt n k] w1 (by simp;omega);rw[le_succ];exact this
   have hsh:=hide (shift_succ n k);clear hl;generalize n / 2 ^ (8*k)=x at hr hr2 hcv hsh;have hx:x<9223372036854775808:=by omega
   go_wp2;go_roundw
   case rel=>exact ⟨k+1,by omega,by go_num,by rw[← hsh.out],hbel.alloc hbel.size _,rfl⟩
   case measure=>simp[intOf];omega
  ·obtain rfl:k=8:=by omega
   go_wp2;go_ret;exact ⟨rfl,hbel⟩
theorem size_of_dataV {s:ByteArray} {l:List UInt8} (h:s.data.toList=l):s.size=l.length:=by rw[← h];simp
theorem data_appendV (a b:ByteArray):(a++b).data.toList=a.data.toList++b.data.toList:=by simp
theorem size_append (a b:ByteArray):(a++b).size=a.size+b.size:=by simp
def encB (s:ByteArray):ByteArray:=⟨(enc s.data.toList).toArray⟩
theorem encB_data (s:ByteArray):(encB s).data.toList=enc s.data.toList:=by simp[encB]
theorem Str_any (s:ByteArray) (w:World) (hs:s.size≤1000000000000) :
  Calls Tryz.prog 49 #[.string s] w fun e w'=>e=.returned (.string (encB s))∧Below w.heap.size w w':=by
 have hpl:padLen s.size<8:=by unfold padLen;omega
 have hpm:∀q,q≤padLen s.size→((8+s.size+q) % 8=0↔q=padLen s.size):=fun q hq=>by unfold padLen at hq ⊢;omega
 have hE:(encB s).data.toList=le (s.size:Int) 8++s.data.toList++List.replicate (padLen s.size) 0:=by
  rw[encB_data];unfold enc;rw[← size_of_dataV (rfl:s.data.toList=s.data.toList)]
 have HE:=hide hE;have HPM:=hide hpm;generalize padLen s.size=p at hpl HE HPM;have cN:=hide (num_any (s.size:Int) w (by omega) (by omega));obtain ⟨m,hm⟩:∃m:ByteArray,m=⟨(le (s.size:Int) 8).toArray⟩:=⟨_,rfl⟩;have hmd:m.data.toList=le (s.size:Int) 8:=by rw[hm]
 have hms:m.size=8:=by rw[size_of_dataV hmd,le_length]
 rw[← hm]at cN;have HMD:=hide hmd;have HMS:=hide hms;clear hE hpm hm hmd;go_enter Tryz.func49,Tryz.ntmps49
 go_wp2_with fail
 refine cN.out.mono ?_;rintro e w1 ⟨rfl,hb⟩;clear cN;have hsum:m.size+s.size≤9223372036854775807:=by omega
 clear hms;go_wp2
 go_loop [3] (fun o=>∃(q:Nat) (t:ByteArray),q≤p∧o=.string t∧Hid (t.size=8+s.size+q)∧Hid (t.data.toList=le (s.size:Int) 8++s.data.toList++List.replicate q 0)) (fun o=>match o with | .string b=>100+s.size - b.size | _=>0)
 case atStart=>
  refine ⟨0,m++s,by omega,rfl,?_,?_⟩
  ·show _=_;rw[size_append,HMS.out];omega
  ·show _=_;rw[data_appendV,HMD.out];simp
 case round=>
  obtain ⟨q,t,hq,rfl,hts,htd⟩:=hrel;have h1:=hts.out
  by_cases hqp:q=p
  ·have hz:((t.size:Int) % 8 != 0)=false:=by
    have:=(HPM.out q hq).2 hqp;rw[h1];simp;omega
   subst hqp;have hfin:t=encB s:=WideShapes.bytes_inj (by rw[htd.out,HE.out]);subst hfin;clear h1;go_wp2;go_ret;exact ⟨rfl,hb⟩
  ·have hz:((t.size:Int) % 8 != 0)=true:=by
    have:=(HPM.out q hq).1;rw[h1];simp;omega
   have htl:t.size+1≤9223372036854775807:=by omega
   have h2:t.size<100+s.size:=by omega
   clear h1;go_wp2
   go_round
   case rel=>
    refine ⟨q+1,t++⟨#[0]⟩,by omega,rfl,?_,?_⟩
    ·show _=_;rw[size_append,hts.out];rfl
    ·show _=_;rw[data_appendV,htd.out,List.replicate_succ'];simp
   case measure=>
    show 100+s.size - (t++⟨#[0]⟩).size<100+s.size - t.size;rw[size_append];have:(⟨#[0]⟩:ByteArray).size=1:=rfl;omega
def encsB (ss:List ByteArray):ByteArray:=⟨(bytesOf ss).toArray⟩
theorem encsB_data (ss:List ByteArray):(encsB ss).data.toList=bytesOf ss:=by simp[encsB]
theorem bytesOf_take (ss:List ByteArray) (k:Nat) (h:k<ss.length):bytesOf (ss.take (k+1))=bytesOf (ss.take k)++enc ss[k].data.toList:=encs_take ss k h
theorem bytesOf_take_le (ss:List ByteArray) (k:Nat):(bytesOf (ss.take k)).length≤(bytesOf ss).length:=encs_take_le ss k
theorem strs_any (b:Nat) (ss:List ByteArray) (w:World) (hb:w.heap[b]?=some (.cells (ss.map Value.string).toArray 9 (0,0))) (hn:(bytesOf ss).length≤1000000000000) (hss:ss.length≤1000) :
  Calls Tryz.prog 51 #[.slice (some ⟨b,0,none⟩) ss.length ss.length] w fun e w'=>e=.returned (.string (encsB ss))∧Below w.heap.size w w':=by
 have hbl:=lt_of_block hb;go_enter Tryz.func51,Tryz.ntmps51;go_wp2
 go_loopw [3,5,8] (fun o _ i w1=>∃(k:Nat) (t:ByteArray),k≤ss.length∧i=.int .i64 k∧o=.string t∧Hid (t.data.toList=bytesOf (ss.take k))∧Below w.heap.size w w1) (fun _ _ i _=>ss.length - (intOf i).toNat)
 case atStart=>exact ⟨0,⟨#[]⟩,by omega,rfl,rfl,rfl,Below.refl _ _⟩
 case round=>
  obtain ⟨k,t,hk,rfl,rfl,htd,hbel⟩:=hrel
  by_cases hlt:k<ss.length
  ·have hcell:wr.cell? ⟨b,k,none⟩=some (.string ss[k]):=by
    rw[hbel.cell (p:=⟨b,k,none⟩) hbl];simp[World.cell?,hb,hlt]
   have h1:=bytesOf_take ss k hlt;have h2:=bytesOf_take_le ss (k+1);have h3:(bytesOf (ss.take (k+1))).length=(bytesOf (ss.take k)).length+(enc ss[k].data.toList).length:=by rw[h1,List.length_append]
   have h4:=size_of_dataV htd.out;have h5:=size_of_dataV (encB_data ss[k]);have h6:ss[k].size+8≤(enc ss[k].data.toList).length:=by
    simp only[enc,List.length_append,le_length,List.length_replicate,Array.length_toList];have:ss[k].data.size=ss[k].size:=rfl;omega
   have H1:=hide h1;generalize hs:ss[k]=s at hcell h3 h5 h6 H1;have hsum:t.size+(encB s).size≤9223372036854775807:=by omega
   have hsb:s.size≤1000000000000:=by omega
   clear h1 h2 h3 h4 h5 h6 hs
   go_wp2_with fail
   refine (Str_any s wr hsb).mono ?_;rintro e w2 ⟨rfl,hb2⟩;go_wp2;go_roundw
   case rel=>
    refine ⟨k+1,t++encB s,by omega,by go_num,rfl,?_,hbel.trans (hb2.mono hbel.size)⟩;show _=_;rw[data_appendV,htd.out,H1.out,encB_data]
   case measure=>simp[intOf];omega
  ·obtain rfl:k=ss.length:=by omega
   have hfin:t=encsB ss:=WideShapes.bytes_inj (by rw[htd.out,encsB_data,List.take_length]);subst hfin;go_wp2;go_ret;exact ⟨rfl,hbel⟩
def dirOf (s:ByteArray):ByteArray:=if cut s=0 then ⟨#[]⟩ else s.extract 0 (cut s - 1)
theorem extract_all (s:ByteArray):s.extract 0 s.size=s:=by
 apply WideShapes.bytes_inj;rw[Lib.extract_data];exact List.take_of_length_le (by simp)
theorem nam_of_zero (s:ByteArray) (h:cut s=0):nam s=s:=by unfold nam;rw[h];exact extract_all s
theorem rsplit_any (s:ByteArray) (w:World) (hs:s.size≤1000000000):Calls Tryz.prog 94 #[.string s] w fun e w'=>e=.returned (.tuple #[.string (dirOf s),.string (nam s)])∧∃n,w'=w.drewN n:=by
 obtain ⟨D,hD⟩:∃D,dirOf s=D:=⟨_,rfl⟩;obtain ⟨M,hM⟩:∃M,nam s=M:=⟨_,rfl⟩;rw[hD,hM];have HD:=hide hD;have HM:=hide hM;clear hD hM;go_enter Tryz.func94,Tryz.ntmps94;go_wp2
 go_loop [4] (fun i=>∃j:Nat,j≤s.size∧i=.int .i64 ((j:Int) - 1)∧Hid (∀i (hi:i<s.size),j≤i→s[i].toNat≠47)) (fun i=>(intOf i+1).toNat)
 case atStart=>exact ⟨s.size,Nat.le_refl _,rfl,fun i hi h=>by omega⟩
 case round=>
  obtain ⟨j,hj,rfl,hr⟩:=hrel
  by_cases h0:j=0
  ·have hcz:cut s=0:=cut_none s (fun i hi=>hr.out i hi (by omega));have hD2:D=⟨#[]⟩:=by rw[← HD.out];simp[dirOf,hcz]
   have hM2:M=s:=by rw[← HM.out];exact nam_of_zero s hcz
   clear HD HM hcz hr;subst h0;subst hD2;subst hM2;go_wp2
   go_ret2
   exact ⟨rfl,0,rfl⟩
  ·obtain ⟨j,rfl⟩:∃q,j=q+1:=⟨j - 1,by omega⟩;rw[show ((j+1:Nat):Int) - 1=(j:Int) by omega];have hlt:j<s.size:=by omega
   by_cases h47:s[j].toNat=47
   ·have hcz:cut s=j+1:=cut_of s j hlt h47 (fun i hi h=>hr.out i hi (by omega));have h47b:((s[j].toNat:Int) == 47)=true:=by simp[h47]
    have hD2:D=s.extract 0 j:=by rw[← HD.out];simp[dirOf,hcz]
    have hM2:M=s.extract (j+1) s.size:=by rw[← HM.out];simp[nam,hcz]
    subst hD2;subst hM2;clear h47 hcz hr HD HM;go_wp2
    go_quiet (fail)
    go_wp2
    go_ret2
    exact ⟨rfl,_,rfl⟩
   ·have h47b:((s[j].toNat:Int) == 47)=false:=by simp;omega
    have hr':Hid (∀i (hi:i<s.size),j≤i→s[i].toNat≠47):=fun i hi h=>by
     by_cases e:i=j
     ·subst e;exact h47
     ·exact hr.out i hi (by omega)
    clear h47 hr;go_wp2
    go_round
    case rel=>exact ⟨j,by omega,rfl,hr'⟩
    case measure=>simp[intOf]
def depthL (l:List UInt8):Nat:=if l=[] then 0 else 1+l.count 47
theorem depth_any (s:ByteArray) (w:World) (hs:s.size≤1000000000):Calls Tryz.prog 96 #[.string s] w fun e w'=>e=.returned (.int .i64 (depthL s.data.toList:Int))∧w'=w:=by
 by_cases h:s.data.toList=[]
 ·have he:s.toList.isEmpty=true:=by rw[ByteArray.toList_eq,h];rfl
  have hd:depthL s.data.toList=0:=by rw[h];rfl
  rw[hd];clear hd h;go_enter Tryz.func96,Tryz.ntmps96;go_wp2;go_ret;exact ⟨rfl,rfl⟩
 ·have he:s.toList.isEmpty=false:=by rw[ByteArray.toList_eq];cases hh:s.data.toList with | nil=>exact absurd hh h | cons a t=>rfl
  have hd:depthL s.data.toList=1+s.data.toList.count 47:=by simp[depthL,h]
  rw[hd];clear hd h;go_enter Tryz.func96,Tryz.ntmps96;go_wp2
  go_loop [3,4] (fun n i=>∃k q:Nat,k≤s.size∧q≤k∧i=.int .i64 k∧n=.int .i64 (1+(q:Int))∧Hid (q=(s.data.toList.take k).count 47)) (fun _ i=>s.size - (intOf i).toNat)
  case atStart=>exact ⟨0,0,by omega,by omega,rfl,rfl,rfl⟩
  case round=>
   obtain ⟨k,q,hk,hq,rfl,rfl,hc⟩:=hrel
   by_cases hlt:k<s.size
   ·have ht:s.data.toList.take (k+1)=s.data.toList.take k++[s[k]]:=by
     rw[List.take_succ_eq_append_getElem (by simpa using hlt)];rfl
    have HT:=hide ht;clear ht
    by_cases h47:s[k].toNat=47
    ·have h47b:((s[k].toNat:Int) == 47)=true:=by simp[h47]
     have h47u:Hid (s[k]=47):=UInt8.toNat_inj.1 h47;clear h47;go_wp2
     go_round
     case rel=>exact ⟨k+1,q+1,by omega,by omega,by go_num,by go_num,by show _=_;rw[HT.out,List.count_append,← hc.out,h47u.out];rfl⟩
     case measure=>simp[intOf];omega
    ·have h47b:((s[k].toNat:Int) == 47)=false:=by simp;omega
     have h47u:Hid (¬ s[k]=47):=fun e=>h47 (by rw[e];rfl)
     clear h47;go_wp2
     go_round
     case rel=>exact ⟨k+1,q,by omega,by omega,by go_num,rfl,by show _=_;rw[HT.out,List.count_append,← hc.out,List.count_cons,if_neg (by simpa using h47u.out)];rfl⟩
     case measure=>simp[intOf];omega
   ·obtain rfl:k=s.size:=by omega
    have hf:q=s.data.toList.count 47:=by rw[hc.out,List.take_of_length_le (by simp)]
    subst hf;go_wp2;go_ret;exact ⟨by go_num,rfl⟩
def belowL (p d:List UInt8):Bool:=if d=[] then !p.isEmpty else decide (d.length<p.length) && (p.take (d.length+1) == d++[47])
theorem below_any (p d:ByteArray) (w:World) (_hp:p.size≤1000000000) (hd:d.size≤1000000000):Calls Tryz.prog 97 #[.string p,.string d] w fun e w'=>e=.returned (.bool (belowL p.data.toList d.data.toList))∧w'=w:=by
 by_cases h:d.data.toList=[]
 ·have he:d.toList.isEmpty=true:=by rw[ByteArray.toList_eq,h];rfl
  have hb:belowL p.data.toList d.data.toList=!p.toList.isEmpty:=by simp only[belowL,if_pos h,ByteArray.toList_eq]
  rw[hb];clear hb h;go_enter Tryz.func97,Tryz.ntmps97;go_wp2;go_ret;exact ⟨rfl,rfl⟩
 ·have he:d.toList.isEmpty=false:=by rw[ByteArray.toList_eq];cases hh:d.data.toList with | nil=>exact absurd hh h | cons a t=>rfl
  have hb:belowL p.data.toList d.data.toList=(decide (d.size<p.size) && ((p.extract 0 (d.size+1)).toList == (d++⟨#[47]⟩).toList)):=by
   simp only[belowL,if_neg h,ByteArray.toList_eq,Lib.extract_data,data_appendV];rfl
  rw[hb];clear hb h
  by_cases hl:d.size<p.size
  ·have hlz:(d.size:Int)<p.size:=by omega
   rw[decide_eq_true hl,Bool.true_and];go_enter Tryz.func97,Tryz.ntmps97;go_wp2;go_ret;exact ⟨rfl,rfl⟩
  ·have hlz:¬ (d.size:Int)<p.size:=by omega
   have hlb:decide ((d.size:Int)<p.size)=false:=decide_eq_false hlz;rw[decide_eq_false hl,Bool.false_and];go_enter Tryz.func97,Tryz.ntmps97;go_wp2;go_ret;exact ⟨rfl,rfl⟩
abbrev cnt (b:Nat):Prop:=128≤b∧b≤191
def refW (b0 b1 b2 b3:Nat):Option Nat:=
 if b0<32∨b0=47∨b0=127 then none else if b0<128 then some 1
 else if 194≤b0∧b0<224 then (if cnt b1 then some 2 else none)
 else if 224≤b0∧b0<240 then (if (cnt b1∧cnt b2)∧2048≤64*(64*(b0 % 16)+b1 % 64)+b2 % 64∧¬ (55296≤64*(64*(b0 % 16)+b1 % 64)+b2 % 64∧64*(64*(b0 % 16)+b1 % 64)+b2 % 64<57344) then some 3 else none)
 else if 240≤b0∧b0<245 then (if (cnt b1∧cnt b2∧cnt b3)∧65536≤64*(64*(64*(b0 % 8)+b1 % 64)+b2 % 64)+b3 % 64∧64*(64*(64*(b0 % 8)+b1 % 64)+b2 % 64)+b3 % 64≤1114111 then some 4 else none)
 else none
theorem badR_bad:badR 65533 1=true:=rfl
theorem badR_ok (r w:Nat) (h:¬ (r=65533∧w=1)) (h2:32≤r) (h3:r≠127) (h4:r≠47):badR r w=false:=by
 unfold badR;simp;omega
theorem badR_asc (b:Nat) (h:b<128):badR b 1=decide (b<32∨b=47∨b=127):=by
 unfold badR;rw[Bool.eq_iff_iff];simp;omega
theorem refW_eq (n b0 b1 b2 b3:Nat) (hn:1≤n) (h0:b0<256) (h1:b1<256) (h2:b2<256) (h3:b3<256) (z1:n≤1→b1=0) (z2:n≤2→b2=0) (z3:n≤3→b3=0) :
  (badR (Lib.decodeN n b0 b1 b2 b3).1 (Lib.decodeN n b0 b1 b2 b3).2=true∧refW b0 b1 b2 b3=none)∨(badR (Lib.decodeN n b0 b1 b2 b3).1 (Lib.decodeN n b0 b1 b2 b3).2=false∧refW b0 b1 b2 b3=some (Lib.decodeN n b0 b1 b2 b3).2):=by
 by_cases a:b0<128
 ·have e:Lib.decodeN n b0 b1 b2 b3=(b0,1):=by unfold Lib.decodeN;rw[if_pos a]
  rw[e];simp only[badR_asc b0 a]
  by_cases hb:b0<32∨b0=47∨b0=127
  ·left;exact ⟨decide_eq_true hb,by unfold refW;rw[if_pos hb]⟩
  ·right;exact ⟨decide_eq_false hb,by unfold refW;rw[if_neg hb,if_pos a]⟩
 ·have nb:¬ (b0<32∨b0=47∨b0=127):=by omega
  by_cases c2:194≤b0∧b0<224
  ·have er:refW b0 b1 b2 b3=if cnt b1 then some 2 else none:=by unfold refW;rw[if_neg nb,if_neg a,if_pos c2]
   by_cases k1:cnt b1
   ·have e:Lib.decodeN n b0 b1 b2 b3=(b0 % 32*64+b1 % 64,2):=by
     unfold cnt at k1;unfold Lib.decodeN;rw[if_neg a,if_pos (by omega),if_pos (by omega)]
    right;rw[e,er,if_pos k1];exact ⟨badR_ok _ _ (by omega) (by dsimp only;omega) (by dsimp only;omega) (by dsimp only;omega),rfl⟩
   ·have e:Lib.decodeN n b0 b1 b2 b3=(65533,1):=by
     unfold cnt at k1;unfold Lib.decodeN;rw[if_neg a,if_neg (by omega),if_neg (by omega),if_neg (by omega)]
    left;rw[e,er,if_neg k1];exact ⟨badR_bad,rfl⟩
  ·by_cases c3:224≤b0∧b0<240
   ·have er:refW b0 b1 b2 b3=if (cnt b1∧cnt b2)∧2048≤64*(64*(b0 % 16)+b1 % 64)+b2 % 64∧¬ (55296≤64*(64*(b0 % 16)+b1 % 64)+b2 % 64∧64*(64*(b0 % 16)+b1 % 64)+b2 % 64<57344) then some 3 else none:=by unfold refW;rw[if_neg nb,if_neg a,if_neg c2,if_pos c3]
    by_cases kk:cnt b1∧cnt b2
    ·by_cases kv:2048≤64*(64*(b0 % 16)+b1 % 64)+b2 % 64∧¬ (55296≤64*(64*(b0 % 16)+b1 % 64)+b2 % 64∧64*(64*(b0 % 16)+b1 % 64)+b2 % 64<57344)
     ·have e:Lib.decodeN n b0 b1 b2 b3=(b0 % 16*4096+b1 % 64*64+b2 % 64,3):=by
       unfold cnt at kk;unfold Lib.decodeN;rw[if_neg a,if_neg (by omega),if_pos (by omega),if_pos (by omega)]
      right;rw[e,er,if_pos ⟨kk,kv⟩];exact ⟨badR_ok _ _ (by omega) (by dsimp only;omega) (by dsimp only;omega) (by dsimp only;omega),rfl⟩
     ·have e:Lib.decodeN n b0 b1 b2 b3=(65533,1):=by
       unfold cnt at kk;unfold Lib.decodeN;rw[if_neg a,if_neg (by omega),if_pos (by omega),if_neg (by omega)]
      left;rw[e,er,if_neg (fun h=>kv h.2)];exact ⟨badR_bad,rfl⟩
    ·have e:Lib.decodeN n b0 b1 b2 b3=(65533,1):=by
      unfold cnt at kk;unfold Lib.decodeN;rw[if_neg a,if_neg (by omega),if_neg (by omega),if_neg (by omega)]
     left;rw[e,er,if_neg (fun h=>kk h.1)];exact ⟨badR_bad,rfl⟩
   ·by_cases c4:240≤b0∧b0<245
    ·have er:refW b0 b1 b2 b3=if (cnt b1∧cnt b2∧cnt b3)∧65536≤64*(64*(64*(b0 % 8)+b1 % 64)+b2 % 64)+b3 % 64∧64*(64*(64*(b0 % 8)+b1 % 64)+b2 % 64)+b3 % 64≤1114111 then some 4 else none:=by unfold refW;rw[if_neg nb,if_neg a,if_neg c2,if_neg c3,if_pos c4]
     by_cases kk:cnt b1∧cnt b2∧cnt b3
     ·by_cases kv:65536≤64*(64*(64*(b0 % 8)+b1 % 64)+b2 % 64)+b3 % 64∧64*(64*(64*(b0 % 8)+b1 % 64)+b2 % 64)+b3 % 64≤1114111
      ·have e:Lib.decodeN n b0 b1 b2 b3=(b0 % 8*262144+b1 % 64*4096+b2 % 64*64+b3 % 64,4):=by
        unfold cnt at kk;unfold Lib.decodeN;rw[if_neg a,if_neg (by omega),if_neg (by omega),if_pos (by omega),if_pos (by omega)]
       right;rw[e,er,if_pos ⟨kk,kv⟩];exact ⟨badR_ok _ _ (by omega) (by dsimp only;omega) (by dsimp only;omega) (by dsimp only;omega),rfl⟩
      ·have e:Lib.decodeN n b0 b1 b2 b3=(65533,1):=by
        unfold cnt at kk;unfold Lib.decodeN;rw[if_neg a,if_neg (by omega),if_neg (by omega),if_pos (by omega),if_neg (by omega)]
       left;rw[e,er,if_neg (fun h=>kv h.2)];exact ⟨badR_bad,rfl⟩
     ·have e:Lib.decodeN n b0 b1 b2 b3=(65533,1):=by
       unfold cnt at kk;unfold Lib.decodeN;rw[if_neg a,if_neg (by omega),if_neg (by omega),if_neg (by omega)]
      left;rw[e,er,if_neg (fun h=>kk h.1)];exact ⟨badR_bad,rfl⟩
    ·have er:refW b0 b1 b2 b3=none:=by unfold refW;rw[if_neg nb,if_neg a,if_neg c2,if_neg c3,if_neg c4]
     left;rw[er,Lib.decodeN_bad n b0 b1 b2 b3 (by omega)];exact ⟨badR_bad,rfl⟩
def bt (l:List UInt8) (p:Nat):Nat:=(l.getD p 0).toNat
theorem bt_lt (l:List UInt8) (p:Nat):bt l p<256:=(l.getD p 0).toNat_lt
theorem bt_out (l:List UInt8) (p:Nat) (h:l.length≤p):bt l p=0:=by
 unfold bt;rw[List.getD_eq_getElem?_getD,List.getElem?_eq_none h];rfl
theorem letters_ref (l:List UInt8) (i:Nat) (h:i<l.length):letters (l.drop i)=match refW (bt l i) (bt l (i+1)) (bt l (i+2)) (bt l (i+3)) with
  | none=>none
  | some w=>(letters (l.drop (i+w))).map (·+1):=by
 have hne:l.drop i≠[]:=fun e=>by have:=congrArg List.length e;simp at this;omega
 rw[letters_step _ hne,Lib.decodeL_N,List.length_drop,Lib.getD_dropU,Lib.getD_dropU,Lib.getD_dropU,Lib.getD_dropU];rw[List.drop_drop];rcases refW_eq (l.length - i) (bt l (i+0)) (bt l (i+1)) (bt l (i+2)) (bt l (i+3)) (by omega) (bt_lt _ _) (bt_lt _ _) (bt_lt _ _) (bt_lt _ _) (fun h=>bt_out _ _ (by omega)) (fun h=>bt_out _ _ (by omega)) (fun h=>bt_out _ _ (by omega)) with ⟨hb,hr⟩ | ⟨hb,hr⟩
 ·rw[Nat.add_zero]at hr hb;rw[hr];unfold bt at hb;rw[Nat.add_zero,if_pos hb]
 ·rw[Nat.add_zero]at hr hb;rw[hr];unfold bt at hb ⊢;rw[Nat.add_zero,if_neg (by rw[hb];decide)]
theorem bt_at (s:ByteArray) (p:Nat) (h:p<s.size):bt s.data.toList p=s[p].toNat:=by
 unfold bt;rw[List.getD_eq_getElem?_getD,get?_of s p h];rfl
theorem filled_any (k:Int) (d:ByteArray) (w:World) (hs:d.size≤1000000000):Calls Tryz.prog 93 #[.int .i64 k,.string d] w fun e w'=>e=.returned (.bool (fits k d.data.toList))∧w'=w:=by
 have hl:d.data.toList.length=d.size:=by simp
 by_cases h1:k=1
 ·subst h1;have hf:fits 1 d.data.toList=decide ((d.size:Int)≤100):=by simp[fits];omega
  rw[hf];clear hf hl;go_enter Tryz.func93,Tryz.ntmps93;go_wp2;go_ret;exact ⟨rfl,rfl⟩
 ·have h1b:(k == 1)=false:=beq_eq_false_iff_ne.2 h1
  by_cases h2:k=2
  ·subst h2;have hf:fits 2 d.data.toList=decide ((d.size:Int)≤100):=by simp[fits];omega
   rw[hf];clear hf hl h1;go_enter Tryz.func93,Tryz.ntmps93;go_wp2;go_ret;exact ⟨rfl,rfl⟩
  ·have h2b:(k == 2)=false:=beq_eq_false_iff_ne.2 h2
   by_cases h3:k=3
   ·subst h3;obtain ⟨R,hR⟩:∃R,fits 3 d.data.toList=R:=⟨_,rfl⟩;rw[hR];have H0:Hid ((0:UInt8)∈d.data.toList→R=false):=fun h=>by rw[← hR];simp[fits,h]
    have H1:Hid (¬ (0:UInt8)∈d.data.toList→R=(decide ((1:Int)≤d.size) && decide ((d.size:Int)≤100))):=fun h=>by
     rw[← hR];have e1:decide (d.data.toList≠[])=decide ((1:Int)≤d.size):=decide_eq_decide.2 (by rw[ne_eq,← List.length_eq_zero_iff,hl];omega);have e2:decide (d.data.toList.length≤100)=decide ((d.size:Int)≤100):=decide_eq_decide.2 (by rw[hl];omega);unfold fits;rw[if_pos rfl,e1,e2,decide_eq_true h,Bool.and_true]
    clear hR h1 h2 hl;go_enter Tryz.func93,Tryz.ntmps93;go_wp2
    go_loop [5] (fun i=>∃j:Nat,j≤d.size∧i=.int .i64 j∧Hid (∀p (hp:p<d.size),p<j→d[p].toNat≠0)) (fun i=>d.size - (intOf i).toNat)
    case atStart=>exact ⟨0,by omega,rfl,fun p _ h=>by omega⟩
    case round=>
     obtain ⟨j,hj,rfl,hno⟩:=hrel
     by_cases hlt:j<d.size
     ·by_cases hz:d[j].toNat=0
      ·have hzb:((d[j].toNat:Int) == 0)=true:=by simp[hz]
       have hRf:=H0.out (by
        have e:d[j]=0:=UInt8.toNat_inj.1 hz;rw[← e];exact List.mem_of_getElem? (get?_of d j hlt))
       subst hRf;clear H0 H1 hz;go_wp2;go_ret;exact ⟨rfl,rfl⟩
      ·have hzb:((d[j].toNat:Int) == 0)=false:=beq_eq_false_iff_ne.2 (by omega);have hno':Hid (∀p (hp:p<d.size),p<j+1→d[p].toNat≠0):=fun p hp h=>by
        by_cases e:p=j
        ·subst e;exact hz
        ·exact hno.out p hp (by omega)
       clear hz;go_wp2
       go_round
       case rel=>exact ⟨j+1,by omega,by go_num,hno'⟩
       case measure=>simp[intOf];omega
     ·have hRv:=H1.out (fun hm=>by
       obtain ⟨p,hp,e⟩:=List.getElem_of_mem hm;have hp':p<d.size:=by simpa using hp
       exact hno.out p hp' (by omega) (by
        have:d[p]=0:=e;rw[this];rfl))
      subst hRv;clear H0 H1
      by_cases h1z:(1:Int)≤d.size
      ·have hd:decide ((1:Int)≤d.size)=true:=decide_eq_true h1z;go_wp2;go_ret;exact ⟨by first | rfl | (rw[hd];rfl),rfl⟩
      ·have hd:decide ((1:Int)≤d.size)=false:=decide_eq_false h1z;go_wp2;go_ret;exact ⟨by first | rfl | (rw[hd];rfl),rfl⟩
   ·have h3b:(k == 3)=false:=beq_eq_false_iff_ne.2 h3
    by_cases h4:k=4
    ·subst h4;have hf:fits 4 d.data.toList=d.toList.isEmpty:=by rw[ByteArray.toList_eq];cases hh:d.data.toList <;> simp[fits]
     rw[hf];clear hf hl h3 h1 h2;go_enter Tryz.func93,Tryz.ntmps93;go_wp2;go_ret;exact ⟨rfl,rfl⟩
    ·have h4b:(k == 4)=false:=beq_eq_false_iff_ne.2 h4;have hf:fits k d.data.toList=false:=by simp[fits,h1,h2,h3,h4]
     rw[hf];clear hf hl h3 h1 h2 h4;go_enter Tryz.func93,Tryz.ntmps93;go_wp2;go_ret;exact ⟨rfl,rfl⟩
end Go.Proofs.YticfcjmlphhpgaaGreatDoor
