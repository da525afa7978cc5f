import Derived.Test.YticfcjmlphhpgaaGreatDoorA02
import Derived.Test.YticfcjmlphhpgaaGreatDoorA03
import Derived.Test.YticfcjmlphhpgaaGreatDoorA13
import Derived.Deep.DeepCutAuto
set_option maxRecDepth 20000
set_option maxHeartbeats 4000000
namespace Go.Proofs.YticfcjmlphhpgaaGreatDoor
open Go.RowKit
def strB (l:List UInt8):ByteArray:=⟨l.toArray⟩
theorem strB_data (l:List UInt8):(strB l).data.toList=l:=by simp[strB]
theorem strs_new (ss:List ByteArray) (W:World) (hn:(bytesOf ss).length≤1000000000000) (hss:ss.length≤1000) (cs:Array Value) (hcs:cs=(ss.map Value.string).toArray) (m:Nat) (hm:m=ss.length) (q:Nat) (hq:q=W.heap.size) :
  Calls Tryz.prog 51 #[.slice (some ⟨q,0,none⟩) m m] (W.alloc (.cells cs 9)) fun e w'=>e=.returned (.string (encsB ss))∧Below W.heap.size W w':=by
 subst hcs hm hq;refine (strs_any W.heap.size ss _ (block_new W _) hn hss).mono ?_;rintro e w' ⟨rfl,h⟩;exact ⟨rfl,((Below.refl _ _).alloc (Nat.le_refl _) _).trans (h.mono (by simp))⟩
def PRef (f:Nat):Prop:=∀(b off cap:Nat) (x:Nd) (F:List Nd) (w:World),b<w.heap.size→NodesAt w b off (x :: F)→(x :: F).length≤cap→cap≤maxLen→Small (x :: F)→F.length≤f→bulk (x :: F)≤1000000000→Kinds (x :: F) →
 Calls Tryz.prog 78 #[.slice (some ⟨b,off,none⟩) (F.length+1) cap] w fun e w'=>e=.returned (.string (strB (refN (refE f) x F)))∧Below w.heap.size w w'
theorem ref_file (f:Nat) (b off cap:Nat) (path data:ByteArray) (F:List Nd) (w:World) (_hbl:b<w.heap.size) (hN:NodesAt w b off (⟨path,1,data⟩ :: F)) (hsm:Small (⟨path,1,data⟩ :: F)) :
  Calls Tryz.prog 78 #[.slice (some ⟨b,off,none⟩) (F.length+1) cap] w fun e w'=>e=.returned (.string (strB (refN (refE f) ⟨path,1,data⟩ F)))∧Below w.heap.size w w':=by
 obtain ⟨c0,c1,c2⟩:=hN 0 (by simp);simp only[Nat.zero_mul,Nat.add_zero,List.getElem_cons_zero]at c0 c1 c2;have hl:=hsm.1;rw[List.length_cons]at hl;have hsd:=(hsm.2 _ (List.mem_cons_self)).2;simp only at hsd;have hz:(0:Int)<(F.length:Int)+1:=by omega
 obtain ⟨X,hX⟩:∃X,strB (refN (refE f) ⟨path,1,data⟩ F)=X:=⟨_,rfl⟩;rw[hX];have hXd:X.data.toList=bytesOf [wOpen,wType]++bytesOf [wFileM,wData,data]++bytesOf [wClose]:=by rw[← hX,strB_data];simp[refN]
 have HX:=hide hXd;have hl1:(bytesOf [wOpen,wType]).length≤100:=by have h1:=bytesOf_cons wOpen [wType];have h2:=bytesOf_cons wType [];have a:wOpen.size=1:=rfl;have b:wType.size=4:=rfl;rw[bytesOf_nil]at h2;omega
 have hl2:(bytesOf [wFileM,wData,data]).length≤200+data.size:=by have h1:=bytesOf_cons wFileM [wData,data];have h2:=data_le data;have a:wFileM.size=4:=rfl;omega
 have hl3:=close_le;have z1:=size_of_dataV (encsB_data [wOpen,wType]);have z2:=size_of_dataV (encsB_data [wFileM,wData,data]);have z3:(encB wClose).size≤20:=by rw[size_of_dataV (encB_data wClose)];exact close_le
 have hs1:(encsB [wOpen,wType]).size≤100:=by omega
 have hs2:(encsB [wFileM,wData,data]).size≤2000000:=by omega
 have hbx:∀W,Below (w.heap.size+1) (w.alloc (.cells #[.string path,.int .i64 1,.string data] 42)) W→W.heap[w.heap.size]?=some (.cells #[.string path,.int .i64 1,.string data] 42):=fun W h=>by
  rw[h.block _ (by omega)];exact block_new w _
 have HBX:=hide hbx;clear hX hXd hsm hN hbx z1 z2;go_enter Tryz.func78,Tryz.ntmps78
 go_wp2_with fail
 refine (strs_new [wOpen,wType] (w.alloc (.cells #[.string path,.int .i64 1,.string data] 42)) (by omega) (by simp) _ rfl _ rfl _ (by simp)).mono ?_;rintro e w2 ⟨rfl,hb2⟩;have hb2':Below (w.heap.size+1) (w.alloc (.cells #[.string path,.int .i64 1,.string data] 42)) w2:=by simpa using hb2
 have hsz2:w.heap.size+1≤w2.heap.size:=by have:=hb2'.size;simpa using this
 obtain ⟨x0,x1,x2⟩:=box_cells (HBX.out w2 hb2');generalize hA:encsB [wOpen,wType]=A at hs1;have HA:=hide hA;clear hA
 go_wp2_with fail
 refine (strs_new [wFileM,wData,data] w2 (by omega) (by simp) _ rfl _ rfl _ rfl).mono ?_;rintro e w3 ⟨rfl,hb3⟩;have hsz3:=hb3.size;generalize hB:encsB [wFileM,wData,data]=B at hs2;have HB:=hide hB;clear hB;have hAB:A.size+B.size≤9223372036854775807:=by omega
 go_wp2_with fail
 refine (Str_any ⟨#[41]⟩ w3 (by decide)).mono ?_;rintro e w4 ⟨rfl,hb4⟩;have hC:(encB ⟨#[41]⟩).data.toList=bytesOf [wClose]:=by decide
 have HC:=hide hC;have z3':(encB ⟨#[41]⟩).size≤20:=z3;clear hC z3;generalize encB ⟨#[41]⟩=C at HC z3';have hABC:(A++B).size+C.size≤9223372036854775807:=by rw[size_append];omega
 have hABC2:A.size+B.size+C.size≤9223372036854775807:=by omega
 have hfin:X=A++B++C:=WideShapes.bytes_inj (by rw[HX.out,data_appendV,data_appendV,← HA.out,← HB.out,encsB_data,encsB_data,HC.out]);subst hfin;go_wp2;go_ret;exact ⟨rfl,(((Below.refl _ _).alloc (Nat.le_refl _) _).trans (hb2'.mono (by omega))).trans ((hb3.mono (by omega)).trans (hb4.mono (by omega)))⟩
theorem ref_exec (f:Nat) (b off cap:Nat) (path data:ByteArray) (F:List Nd) (w:World) (_hbl:b<w.heap.size) (hN:NodesAt w b off (⟨path,2,data⟩ :: F)) (hsm:Small (⟨path,2,data⟩ :: F)) :
  Calls Tryz.prog 78 #[.slice (some ⟨b,off,none⟩) (F.length+1) cap] w fun e w'=>e=.returned (.string (strB (refN (refE f) ⟨path,2,data⟩ F)))∧Below w.heap.size w w':=by
 obtain ⟨c0,c1,c2⟩:=hN 0 (by simp);simp only[Nat.zero_mul,Nat.add_zero,List.getElem_cons_zero]at c0 c1 c2;have hl:=hsm.1;rw[List.length_cons]at hl;have hsd:=(hsm.2 _ (List.mem_cons_self)).2;simp only at hsd;have hz:(0:Int)<(F.length:Int)+1:=by omega
 obtain ⟨X,hX⟩:∃X,strB (refN (refE f) ⟨path,2,data⟩ F)=X:=⟨_,rfl⟩;rw[hX];have hXd:X.data.toList=bytesOf [wOpen,wType]++bytesOf [wFileM,wExec,wNone,wData,data]++bytesOf [wClose]:=by rw[← hX,strB_data];simp[refN]
 have HX:=hide hXd;have hl1:(bytesOf [wOpen,wType]).length≤100:=by have h1:=bytesOf_cons wOpen [wType];have h2:=bytesOf_cons wType [];have a:wOpen.size=1:=rfl;have b:wType.size=4:=rfl;rw[bytesOf_nil]at h2;omega
 have hl2:(bytesOf [wFileM,wExec,wNone,wData,data]).length≤200+data.size:=by have h1:=bytesOf_cons wFileM [wExec,wNone,wData,data];have h3:=bytesOf_cons wExec [wNone,wData,data];have h4:=bytesOf_cons wNone [wData,data];have h2:=data_le data;have a:wFileM.size=4:=rfl;have b:wExec.size=4:=rfl;have c:wNone.size=0:=rfl;omega
 have hl3:=close_le;have z1:=size_of_dataV (encsB_data [wOpen,wType]);have z2:=size_of_dataV (encsB_data [wFileM,wExec,wNone,wData,data]);have z3:(encB wClose).size≤20:=by rw[size_of_dataV (encB_data wClose)];exact close_le
 have hs1:(encsB [wOpen,wType]).size≤100:=by omega
 have hs2:(encsB [wFileM,wExec,wNone,wData,data]).size≤2000000:=by omega
 have hbx:∀W,Below (w.heap.size+1) (w.alloc (.cells #[.string path,.int .i64 2,.string data] 42)) W→W.heap[w.heap.size]?=some (.cells #[.string path,.int .i64 2,.string data] 42):=fun W h=>by
  rw[h.block _ (by omega)];exact block_new w _
 have HBX:=hide hbx;clear hX hXd hsm hN hbx z1 z2;go_enter Tryz.func78,Tryz.ntmps78
 go_wp2_with fail
 refine (strs_new [wOpen,wType] (w.alloc (.cells #[.string path,.int .i64 2,.string data] 42)) (by omega) (by simp) _ rfl _ rfl _ (by simp)).mono ?_;rintro e w2 ⟨rfl,hb2⟩;have hb2':Below (w.heap.size+1) (w.alloc (.cells #[.string path,.int .i64 2,.string data] 42)) w2:=by simpa using hb2
 have hsz2:w.heap.size+1≤w2.heap.size:=by have:=hb2'.size;simpa using this
 obtain ⟨x0,x1,x2⟩:=box_cells (HBX.out w2 hb2');generalize hA:encsB [wOpen,wType]=A at hs1;have HA:=hide hA;clear hA
 go_wp2_with fail
 refine (strs_new [wFileM,wExec,wNone,wData,data] w2 (by omega) (by simp) _ rfl _ rfl _ rfl).mono ?_;rintro e w3 ⟨rfl,hb3⟩;have hsz3:=hb3.size;generalize hB:encsB [wFileM,wExec,wNone,wData,data]=B at hs2;have HB:=hide hB;clear hB;have hAB:A.size+B.size≤9223372036854775807:=by omega
 go_wp2_with fail
 refine (Str_any ⟨#[41]⟩ w3 (by decide)).mono ?_;rintro e w4 ⟨rfl,hb4⟩;have hC:(encB ⟨#[41]⟩).data.toList=bytesOf [wClose]:=by decide
 have HC:=hide hC;have z3':(encB ⟨#[41]⟩).size≤20:=z3;clear hC z3;generalize encB ⟨#[41]⟩=C at HC z3';have hABC:(A++B).size+C.size≤9223372036854775807:=by rw[size_append];omega
 have hABC2:A.size+B.size+C.size≤9223372036854775807:=by omega
 have hfin:X=A++B++C:=WideShapes.bytes_inj (by rw[HX.out,data_appendV,data_appendV,← HA.out,← HB.out,encsB_data,encsB_data,HC.out]);subst hfin;go_wp2;go_ret;exact ⟨rfl,(((Below.refl _ _).alloc (Nat.le_refl _) _).trans (hb2'.mono (by omega))).trans ((hb3.mono (by omega)).trans (hb4.mono (by omega)))⟩
theorem ref_link (f:Nat) (b off cap:Nat) (path data:ByteArray) (F:List Nd) (w:World) (_hbl:b<w.heap.size) (hN:NodesAt w b off (⟨path,3,data⟩ :: F)) (hsm:Small (⟨path,3,data⟩ :: F)) :
  Calls Tryz.prog 78 #[.slice (some ⟨b,off,none⟩) (F.length+1) cap] w fun e w'=>e=.returned (.string (strB (refN (refE f) ⟨path,3,data⟩ F)))∧Below w.heap.size w w':=by
 obtain ⟨c0,c1,c2⟩:=hN 0 (by simp);simp only[Nat.zero_mul,Nat.add_zero,List.getElem_cons_zero]at c0 c1 c2;have hl:=hsm.1;rw[List.length_cons]at hl;have hsd:=(hsm.2 _ (List.mem_cons_self)).2;simp only at hsd;have hz:(0:Int)<(F.length:Int)+1:=by omega
 obtain ⟨X,hX⟩:∃X,strB (refN (refE f) ⟨path,3,data⟩ F)=X:=⟨_,rfl⟩;rw[hX];have hXd:X.data.toList=bytesOf [wOpen,wType]++bytesOf [wLinkM,wTo,data]++bytesOf [wClose]:=by rw[← hX,strB_data];simp[refN]
 have HX:=hide hXd;have hl1:(bytesOf [wOpen,wType]).length≤100:=by have h1:=bytesOf_cons wOpen [wType];have h2:=bytesOf_cons wType [];have a:wOpen.size=1:=rfl;have b:wType.size=4:=rfl;rw[bytesOf_nil]at h2;omega
 have hl2:(bytesOf [wLinkM,wTo,data]).length≤200+data.size:=by have h1:=bytesOf_cons wLinkM [wTo,data];have h2:=to_le data;have a:wLinkM.size=4:=rfl;omega
 have hl3:=close_le;have z1:=size_of_dataV (encsB_data [wOpen,wType]);have z2:=size_of_dataV (encsB_data [wLinkM,wTo,data]);have z3:(encB wClose).size≤20:=by rw[size_of_dataV (encB_data wClose)];exact close_le
 have hs1:(encsB [wOpen,wType]).size≤100:=by omega
 have hs2:(encsB [wLinkM,wTo,data]).size≤2000000:=by omega
 have hbx:∀W,Below (w.heap.size+1) (w.alloc (.cells #[.string path,.int .i64 3,.string data] 42)) W→W.heap[w.heap.size]?=some (.cells #[.string path,.int .i64 3,.string data] 42):=fun W h=>by
  rw[h.block _ (by omega)];exact block_new w _
 have HBX:=hide hbx;clear hX hXd hsm hN hbx z1 z2;go_enter Tryz.func78,Tryz.ntmps78
 go_wp2_with fail
 refine (strs_new [wOpen,wType] (w.alloc (.cells #[.string path,.int .i64 3,.string data] 42)) (by omega) (by simp) _ rfl _ rfl _ (by simp)).mono ?_;rintro e w2 ⟨rfl,hb2⟩;have hb2':Below (w.heap.size+1) (w.alloc (.cells #[.string path,.int .i64 3,.string data] 42)) w2:=by simpa using hb2
 have hsz2:w.heap.size+1≤w2.heap.size:=by have:=hb2'.size;simpa using this
 obtain ⟨x0,x1,x2⟩:=box_cells (HBX.out w2 hb2');generalize hA:encsB [wOpen,wType]=A at hs1;have HA:=hide hA;clear hA
 go_wp2_with fail
 refine (strs_new [wLinkM,wTo,data] w2 (by omega) (by simp) _ rfl _ rfl _ rfl).mono ?_;rintro e w3 ⟨rfl,hb3⟩;have hsz3:=hb3.size;generalize hB:encsB [wLinkM,wTo,data]=B at hs2;have HB:=hide hB;clear hB;have hAB:A.size+B.size≤9223372036854775807:=by omega
 go_wp2_with fail
 refine (Str_any ⟨#[41]⟩ w3 (by decide)).mono ?_;rintro e w4 ⟨rfl,hb4⟩;have hC:(encB ⟨#[41]⟩).data.toList=bytesOf [wClose]:=by decide
 have HC:=hide hC;have z3':(encB ⟨#[41]⟩).size≤20:=z3;clear hC z3;generalize encB ⟨#[41]⟩=C at HC z3';have hABC:(A++B).size+C.size≤9223372036854775807:=by rw[size_append];omega
 have hABC2:A.size+B.size+C.size≤9223372036854775807:=by omega
 have hfin:X=A++B++C:=WideShapes.bytes_inj (by rw[HX.out,data_appendV,data_appendV,← HA.out,← HB.out,encsB_data,encsB_data,HC.out]);subst hfin;go_wp2;go_ret;exact ⟨rfl,(((Below.refl _ _).alloc (Nat.le_refl _) _).trans (hb2'.mono (by omega))).trans ((hb3.mono (by omega)).trans (hb4.mono (by omega)))⟩
theorem Name_any (s:ByteArray) (w:World) (hs:s.size≤1000000000):Calls Tryz.prog 95 #[.string s] w fun e w'=>e=.returned (.bool (isNameB s.data.toList))∧w'=w:=by
 have cL:=hide (letters_any s w hs);cases hl:letters s.data.toList with
 | none=>
  rw[hl]at cL;rw[isNameB_none _ hl];unfold lRes at cL;clear hl;go_enter Tryz.func95,Tryz.ntmps95
  go_wp2_with fail
  refine cL.out.mono ?_;rintro e w1 ⟨rfl,rfl⟩;clear cL;go_wp2;go_ret;exact ⟨rfl,rfl⟩
 | some n=>
  rw[hl]at cL;unfold lRes at cL
  by_cases h1:(1:Int)≤n
  ·have hd1:decide ((1:Int)≤n)=true:=decide_eq_true h1
   by_cases h12:(n:Int)≤12
   ·have hd2:decide ((n:Int)≤12)=true:=decide_eq_true h12
    by_cases e1:s.data.toList=[46]
    ·have hb:(s.toList == [46])=true:=by rw[ByteArray.toList_eq,e1];rfl
     have hf:isNameB s.data.toList=false:=by rw[e1];rfl
     rw[hf];clear hl e1 hf;go_enter Tryz.func95,Tryz.ntmps95
     go_wp2_with fail
     refine cL.out.mono ?_;rintro e w1 ⟨rfl,rfl⟩;clear cL;go_wp2;go_ret;exact ⟨rfl,rfl⟩
    ·have hb:(s.toList == [46])=false:=by rw[ByteArray.toList_eq];exact beq_eq_false_iff_ne.2 e1
     by_cases e2:s.data.toList=[46,46]
     ·have hb2:(s.toList == [46,46])=true:=by rw[ByteArray.toList_eq,e2];rfl
      have hf:isNameB s.data.toList=false:=by rw[e2];rfl
      rw[hf];clear hl e1 hf e2;go_enter Tryz.func95,Tryz.ntmps95
      go_wp2_with fail
      refine cL.out.mono ?_;rintro e w1 ⟨rfl,rfl⟩;clear cL;go_wp2;go_ret;exact ⟨rfl,rfl⟩
     ·have hb2:(s.toList == [46,46])=false:=by rw[ByteArray.toList_eq];exact beq_eq_false_iff_ne.2 e2
      have hf:isNameB s.data.toList=true:=by rw[isNameB_some _ n hl e1 e2,hd1,hd2];rfl
      rw[hf];clear hl e1 hf e2;go_enter Tryz.func95,Tryz.ntmps95
      go_wp2_with fail
      refine cL.out.mono ?_;rintro e w1 ⟨rfl,rfl⟩;clear cL;go_wp2;go_ret;exact ⟨rfl,rfl⟩
   ·have hd2:decide ((n:Int)≤12)=false:=decide_eq_false h12;have hf:isNameB s.data.toList=false:=by
     have:decide (n≤12)=false:=decide_eq_false (by omega);simp[isNameB,hl,this]
    rw[hf];clear hl hf;go_enter Tryz.func95,Tryz.ntmps95
    go_wp2_with fail
    refine cL.out.mono ?_;rintro e w1 ⟨rfl,rfl⟩;clear cL;go_wp2;go_ret;exact ⟨rfl,rfl⟩
  ·have hd1:decide ((1:Int)≤n)=false:=decide_eq_false h1;have hf:isNameB s.data.toList=false:=by
    have:decide (1≤n)=false:=decide_eq_false (by omega);simp[isNameB,hl,this]
   rw[hf];clear hl hf;go_enter Tryz.func95,Tryz.ntmps95
   go_wp2_with fail
   refine cL.out.mono ?_;rintro e w1 ⟨rfl,rfl⟩;clear cL;go_wp2;go_ret;exact ⟨rfl,rfl⟩
theorem fold_dead (dir name:Bs):∀l:List Nd,l.foldl (stepS dir name) none=none
 | []=>rfl
 | y :: r=>by rw[List.foldl_cons];exact fold_dead dir name r
theorem scan_dead (dir name:Bs) (l:List Nd) (j k:Nat) (hjk:j≤k) (h:scan dir name (l.take j)=none):scan dir name (l.take k)=none:=by
 obtain ⟨m,rfl⟩:∃m,k=j+m:=⟨k - j,by omega⟩;unfold scan at h ⊢;rw[List.take_add,List.foldl_append,h];exact fold_dead _ _ _
theorem scan_next (dir name:Bs) (l:List Nd) (j:Nat) (h:j<l.length):scan dir name (l.take (j+1))=stepS dir name (scan dir name (l.take j)) l[j]:=by
 rw[List.take_succ_eq_append_getElem h,scan_snoc]
theorem stepS_go (dir name:Bs) (y:Nd) (hnm:¬ (np y=dir∧y.kind=4)) (hB:belL (np y) dir=true) (h:¬ (dirL (np y)=dir∧bl (namL (np y)) name=false)):stepS dir name (some true) y=some true:=by
 simp only[stepS,if_neg hnm,hB,if_neg h];simp
theorem stepS_stop (dir name:Bs) (y:Nd) (hnm:¬ (np y=dir∧y.kind=4)) (hB:belL (np y) dir=true) (h:dirL (np y)=dir∧bl (namL (np y)) name=false):stepS dir name (some true) y=none:=by
 simp only[stepS,if_neg hnm,hB,if_pos h];simp
theorem below_drewN {B:Nat} {a w:World} (h:Below B a w):∀q,Below B a (w.drewN q)
 | 0=>h
 | q+1=>(below_drewN h q).drew
theorem right_any (b off cap:Nat) (ns:List Nd) (k:Nat) (hk:k<ns.length) (hcap:ns.length≤cap) (hmax:cap≤maxLen) (w:World) (hbl:b<w.heap.size) (hN:NodesAt w b off ns) (hsm:Small ns) :
  Calls Tryz.prog 67 #[.slice (some ⟨b,off,none⟩) ns.length cap,.int .i64 (k:Int)] w fun e w'=>e=.returned (.bool (rightB (ns.take k) ns[k]))∧Below w.heap.size w w':=by
 obtain ⟨R,hR⟩:∃R,rightB (ns.take k) ns[k]=R:=⟨_,rfl⟩;rw[hR];unfold maxLen at hmax;have hsz:=hsm.1;obtain ⟨c0,c1,c2⟩:=hN k hk;have hsk:=hsm.2 _ (List.getElem_mem hk);have hlk:(ns.take k).length=k:=by rw[List.length_take];omega
 have HN:=hide hN;have HS:=hide hsm;generalize hx:ns[k]=x at hR c0 c1 c2 hsk;obtain ⟨path,kind,data⟩:=x;simp only at c0 c1 c2 hsk;unfold rightB at hR;simp only[hlk]at hR;clear hN hsm hx hlk;have hkz:(k:Int)<ns.length:=by omega
 have hkz0:(0:Int)≤k:=by omega
 by_cases h30:k<30
 ·have h30z:¬ (30:Int)≤k:=by omega
  have h30b:decide ((30:Int)≤k)=false:=decide_eq_false h30z;rw[decide_eq_true h30,Bool.true_and]at hR;have cF:=hide (filled_any kind data (w.alloc (.cells #[.string path,.int .i64 kind,.string data] 42)) (by omega));cases hfit:fits kind data.data.toList with
  | false=>
   rw[hfit]at cF hR;simp only[Bool.false_and]at hR;subst hR;clear hfit;go_enter Tryz.func67,Tryz.ntmps67
   go_wp2_with fail
   refine cF.out.mono ?_;rintro e w1 ⟨rfl,rfl⟩;clear cF;go_wp2;go_ret;exact ⟨rfl,(Below.refl _ _).alloc (Nat.le_refl _) _⟩
  | true=>
   rw[hfit]at cF hR;simp only[Bool.true_and]at hR;clear hfit
   by_cases hk0:k=0
   ·subst hk0;simp only[List.take_zero,if_true]at hR;have hpe:path.toList.isEmpty=R:=by rw[ByteArray.toList_eq];exact hR
    rw[Nat.zero_mul,Nat.add_zero]at c0 c1 c2;have HPE:=hide hpe;clear hR hpe;go_enter Tryz.func67,Tryz.ntmps67
    go_wp2_with fail
    refine cF.out.mono ?_;rintro e w1 ⟨rfl,rfl⟩;clear cF;go_wp2;go_ret;exact ⟨by rw[← HPE.out];rfl,(Below.refl _ _).alloc (Nat.le_refl _) _⟩
   ·have hk0b:((k:Int) == 0)=false:=beq_eq_false_iff_ne.2 (by omega);have hne:ns.take k≠[]:=fun e=>by have:=congrArg List.length e;rw[List.length_take,List.length_nil]at this;omega
    rw[if_neg hne]at hR;unfold condB np at hR;simp only at hR;have hdd:=dirOf_data path;have hnd:=nam_dataV path;rw[← hdd,← hnd]at hR;have hns:(nam path).size≤1000000:=Nat.le_trans (nam_size path) hsk.1;have hds:(dirOf path).size≤1000000:=by
     unfold dirOf;split
     ·exact Nat.zero_le _
     ·rw[ByteArray.size_extract];omega
    have cS:=hide (rsplit_any path (w.alloc (.cells #[.string path,.int .i64 kind,.string data] 42)) (by omega));generalize dirOf path=D at cS hR hds hdd;generalize nam path=N at cS hR hns hnd;have hbx:(w.alloc (.cells #[.string path,.int .i64 kind,.string data] 42)).heap[w.heap.size]?=some (.cells #[.string path,.int .i64 kind,.string data] 42):=block_new w _;have hbelA:Below w.heap.size w (w.alloc (.cells #[.string path,.int .i64 kind,.string data] 42)):=(Below.refl _ _).alloc (Nat.le_refl _) _;have hWW:∀n,∃W1,W1=(w.alloc (.cells #[.string path,.int .i64 kind,.string data] 42)).drewN n:=fun n=>⟨_,rfl⟩
    have HR:=hide hR;clear hR hdd hnd hne hk0
    by_cases hE1:path.data.toList=[]
    ·have hpe:path.toList.isEmpty=true:=by rw[ByteArray.toList_eq,hE1];rfl
     have hRf:R=false:=by rw[← HR.out,hE1];rfl
     subst hRf;clear hE1 HR hWW;go_enter Tryz.func67,Tryz.ntmps67
     go_wp2_with fail
     refine cF.out.mono ?_;rintro e w1 ⟨rfl,rfl⟩;clear cF
     go_wp2_with fail
     refine cS.out.mono ?_;rintro e w2 ⟨rfl,n2,rfl⟩;clear cS;go_wp2;go_ret;exact ⟨rfl,below_drewN hbelA n2⟩
    ·have hpe:path.toList.isEmpty=false:=by rw[ByteArray.toList_eq];cases hh:path.data.toList with | nil=>exact absurd hh hE1 | cons a t=>rfl
     have hp0:0<path.size:=by
      rw[size_of_dataV (rfl:path.data.toList=path.data.toList)];exact List.length_pos_iff.2 hE1
     have hp0z:(0:Int)<path.size:=by omega
     have hie:path.data.toList.isEmpty=false:=by rw[← ByteArray.toList_eq];exact hpe
     have hhd:path.data.toList.head?=some path[0]:=by rw[List.head?_eq_getElem?];exact get?_of path 0 hp0
     have hR1:=HR.out;rw[hie,hhd]at hR1;simp only[Bool.false_or]at hR1;clear HR hE1 hie hhd
     by_cases hE2:path[0].toNat=47
     ·have hb:((path[0].toNat:Int) == 47)=true:=by simp[hE2]
      have hRf:R=false:=by
       have:path[0]=47:=UInt8.toNat_inj.1 hE2;rw[← hR1,this];rfl
      subst hRf;clear hE2 hR1 hWW;go_enter Tryz.func67,Tryz.ntmps67
      go_wp2_with fail
      refine cF.out.mono ?_;rintro e w1 ⟨rfl,rfl⟩;clear cF
      go_wp2_with fail
      refine cS.out.mono ?_;rintro e w2 ⟨rfl,n2,rfl⟩;clear cS;go_wp2;go_ret;exact ⟨rfl,below_drewN hbelA n2⟩
     ·have hb:((path[0].toNat:Int) == 47)=false:=beq_eq_false_iff_ne.2 (by omega);have hb2:(some path[0] == some (47:UInt8))=false:=by
       rw[beq_eq_false_iff_ne];intro e;exact hE2 (by rw[Option.some.inj e];rfl)
      rw[hb2]at hR1;simp only[Bool.false_or]at hR1;clear hE2 hb2;cases hnm:isNameB N.data.toList with
      | false=>
       have hRf:R=false:=by rw[← hR1,hnm];rfl
       subst hRf;clear hR1;go_enter Tryz.func67,Tryz.ntmps67
       go_wp2_with fail
       refine cF.out.mono ?_;rintro e w1 ⟨rfl,rfl⟩;clear cF
       go_wp2_with fail
       refine cS.out.mono ?_;rintro e w2 ⟨rfl,n2,rfl⟩;clear cS;have cN:=hide (Name_any N ((w.alloc (.cells #[.string path,.int .i64 kind,.string data] 42)).drewN n2) (by omega));rw[hnm]at cN;clear hnm
       go_wp2_with fail
       refine cN.out.mono ?_;rintro e w3 ⟨rfl,rfl⟩;clear cN;go_wp2;go_ret;exact ⟨rfl,below_drewN hbelA n2⟩
      | true=>
       rw[hnm]at hR1;simp only[Bool.not_true,Bool.false_or]at hR1
       by_cases hE4:5<depthL path.data.toList
       ·have hRf:R=false:=by rw[← hR1,decide_eq_true hE4];rfl
        have hdz:(5:Int)<(depthL path.data.toList:Int):=by omega
        subst hRf;clear hR1 hE4;go_enter Tryz.func67,Tryz.ntmps67
        go_wp2_with fail
        refine cF.out.mono ?_;rintro e w1 ⟨rfl,rfl⟩;clear cF
        go_wp2_with fail
        refine cS.out.mono ?_;rintro e w2 ⟨rfl,n2,rfl⟩;clear cS;have cN:=hide (Name_any N ((w.alloc (.cells #[.string path,.int .i64 kind,.string data] 42)).drewN n2) (by omega));rw[hnm]at cN;clear hnm
        go_wp2_with fail
        refine cN.out.mono ?_;rintro e w3 ⟨rfl,rfl⟩;clear cN
        go_wp2_with fail
        refine (depth_any path _ (by omega)).mono ?_;rintro e w4 ⟨rfl,rfl⟩;go_wp2;go_ret;exact ⟨rfl,below_drewN hbelA n2⟩
       ·have hdz:¬ (5:Int)<(depthL path.data.toList:Int):=by omega
        have hdb:decide ((5:Int)<(depthL path.data.toList:Int))=false:=decide_eq_false hdz;rw[decide_eq_false hE4]at hR1;simp only[Bool.not_false,Bool.true_and]at hR1;have HRS:=hide hR1;clear hR1 hE4;go_enter Tryz.func67,Tryz.ntmps67
        go_wp2_with fail
        refine cF.out.mono ?_;rintro e w1 ⟨rfl,rfl⟩;clear cF
        go_wp2_with fail
        refine cS.out.mono ?_;rintro e w2 ⟨rfl,n2,rfl⟩;clear cS;have cN:=hide (Name_any N ((w.alloc (.cells #[.string path,.int .i64 kind,.string data] 42)).drewN n2) (by omega));rw[hnm]at cN;clear hnm
        go_wp2_with fail
        refine cN.out.mono ?_;rintro e w3 ⟨rfl,rfl⟩;clear cN
        go_wp2_with fail
        refine (depth_any path _ (by omega)).mono ?_;rintro e w4 ⟨rfl,rfl⟩;have hb4:Below w.heap.size w ((w.alloc (.cells #[.string path,.int .i64 kind,.string data] 42)).drewN n2):=below_drewN hbelA n2;generalize (w.alloc (.cells #[.string path,.int .i64 kind,.string data] 42)).drewN n2=W2 at hb4 ⊢;have hkc:(k:Int)≤cap:=by omega
        have hdeadR:Hid (∀j,j≤k→scan D.data.toList N.data.toList (ns.take j)=none→R=false):=fun j hj h=>by
         rw[← HRS.out,scan_dead _ _ ns j k hj h];rfl
        have hendR:Hid (∀bb,scan D.data.toList N.data.toList (ns.take k)=some bb→R=bb):=fun bb h=>by
         rw[← HRS.out,h];cases bb <;> rfl
        have hszw:=hb4.size;clear HRS c0 c1 c2;go_wp2
        go_loopw [8,10,11,12,62] (fun inn _ _ _ i w1=>∃(j:Nat) (bb:Bool),j≤k∧i=.int .i64 j∧inn=.bool bb∧Below w.heap.size w w1∧Hid (scan D.data.toList N.data.toList (ns.take j)=some bb)) (fun _ _ _ _ i _=>k - (intOf i).toNat)
        case atStart=>exact ⟨0,false,by omega,rfl,rfl,hb4,rfl⟩
        case round=>
         obtain ⟨j,bb,hj,rfl,rfl,hbel,HSC⟩:=hrel;have hszr:=hbel.size
         by_cases hlt:j<k
         ·have hjl:j<ns.length:=by omega
          obtain ⟨d0,d1,d2⟩:=(HN.out.below hbel hbl) j hjl;have hsy:=HS.out.2 _ (List.getElem_mem hjl);have hnx:=scan_next D.data.toList N.data.toList ns j hjl;rw[HSC.out]at hnx;generalize hy:ns[j]=y at d0 d1 d2 hsy hnx;obtain ⟨yp,yk,yd⟩:=y;simp only at d0 d1 d2 hsy;have hltz:(j:Int)<k:=by omega
          by_cases hpd:yp=D
          ·have hpb:=eqB_true hpd
           by_cases h4:yk=4
           ·have hst:Hid (scan D.data.toList N.data.toList (ns.take (j+1))=some true):=by
             show _=_;rw[hnx];simp[stepS,np,hpd,h4]
            subst h4;clear hnx hpd hy HSC;go_wp2;go_roundw
            case rel=>exact ⟨j+1,true,by omega,by go_num,rfl,hbel.alloc hszr _,hst⟩
            case measure=>simp[intOf];omega
           ·have h4b:(yk == 4)=false:=beq_eq_false_iff_ne.2 h4;have hnm:¬ (np ⟨yp,yk,yd⟩=D.data.toList∧(⟨yp,yk,yd⟩:Nd).kind=4):=fun h=>h4 h.2
            cases bb with
            | false=>
             have hst:Hid (scan D.data.toList N.data.toList (ns.take (j+1))=some false):=by
              show _=_;rw[hnx];simp only[stepS,if_neg hnm,if_true]
             clear hnx hnm hpd hy HSC;go_wp2;go_roundw
             case rel=>exact ⟨j+1,false,by omega,by go_num,rfl,hbel.alloc hszr _,hst⟩
             case measure=>simp[intOf];omega
            | true=>
             have cB:=hide (below_any yp D (wr.alloc (.cells #[.string yp,.int .i64 yk,.string yd] 42)) (by omega) (by omega));rw[belowL_eq]at cB;cases hB:belL yp.data.toList D.data.toList with
             | false=>
              have hst:scan D.data.toList N.data.toList (ns.take (j+1))=none:=by
               rw[hnx];simp only[stepS,if_neg hnm];simp[np,hB]
              have hRf:=hdeadR.out (j+1) (by omega) hst;subst hRf;rw[hB]at cB;clear hnx hnm hpd hy HSC hdeadR hendR hst hB
              go_wp2_with fail
              refine cB.out.mono ?_;rintro e w3 ⟨rfl,rfl⟩;clear cB;go_wp2;go_ret;exact ⟨rfl,hbel.alloc hszr _⟩
             | true=>
              rw[hB]at cB;have cY:=hide (rsplit_any yp (wr.alloc (.cells #[.string yp,.int .i64 yk,.string yd] 42)) (by omega));have hdd2:=dirOf_data yp;have hnd2:=nam_dataV yp
              by_cases hup:dirOf yp=D
              ·have hupb:=eqB_true hup;cases hBL:Op.bytesLess (nam yp).toList N.toList with
               | true=>
                have hst:Hid (scan D.data.toList N.data.toList (ns.take (j+1))=some true):=by
                 have hb1:bl (namL (np ⟨yp,yk,yd⟩)) N.data.toList=true:=by
                  show Op.bytesLess (namL yp.data.toList) N.data.toList=true;rw[← hnd2,← ByteArray.toList_eq,← ByteArray.toList_eq];exact hBL
                 show _=_;rw[hnx];exact stepS_go _ _ _ hnm hB (fun h=>by rw[hb1]at h;cases h.2)
                generalize dirOf yp=up at cY hupb;generalize nam yp=last at cY hBL;clear hnx hnm hpd hy HSC hB hdd2 hnd2 hup
                go_wp2_with fail
                refine cB.out.mono ?_;rintro e w3 ⟨rfl,rfl⟩;clear cB
                go_wp2_with fail
                refine cY.out.mono ?_;rintro e w4 ⟨rfl,n4,rfl⟩;clear cY;go_wp2;go_roundw
                case rel=>exact ⟨j+1,true,by omega,by go_num,rfl,below_drewN (hbel.alloc hszr _) n4,hst⟩
                case measure=>simp[intOf];omega
               | false=>
                have hst:scan D.data.toList N.data.toList (ns.take (j+1))=none:=by
                 have hb1:bl (namL (np ⟨yp,yk,yd⟩)) N.data.toList=false:=by
                  show Op.bytesLess (namL yp.data.toList) N.data.toList=false;rw[← hnd2,← ByteArray.toList_eq,← ByteArray.toList_eq];exact hBL
                 have hd1:dirL (np ⟨yp,yk,yd⟩)=D.data.toList:=by
                  show dirL yp.data.toList=_;rw[← hdd2,hup]
                 rw[hnx];exact stepS_stop _ _ _ hnm hB ⟨hd1,hb1⟩
                have hRf:=hdeadR.out (j+1) (by omega) hst;subst hRf;generalize dirOf yp=up at cY hupb;generalize nam yp=last at cY hBL;clear hnx hnm hpd hy HSC hB hdd2 hnd2 hup hdeadR hendR hst
                go_wp2_with fail
                refine cB.out.mono ?_;rintro e w3 ⟨rfl,rfl⟩;clear cB
                go_wp2_with fail
                refine cY.out.mono ?_;rintro e w4 ⟨rfl,n4,rfl⟩;clear cY;go_wp2;go_ret;exact ⟨rfl,below_drewN (hbel.alloc hszr _) n4⟩
              ·have hupb:=eqB_false hup;have hst:Hid (scan D.data.toList N.data.toList (ns.take (j+1))=some true):=by
                have hd1:¬ dirL (np ⟨yp,yk,yd⟩)=D.data.toList:=by
                 show ¬ dirL yp.data.toList=_;rw[← hdd2];exact fun e=>hup (WideShapes.bytes_inj e)
                show _=_;rw[hnx];exact stepS_go _ _ _ hnm hB (fun h=>hd1 h.1)
               generalize dirOf yp=up at cY hupb;generalize nam yp=last at cY;clear hnx hnm hpd hy HSC hB hdd2 hnd2 hup
               go_wp2_with fail
               refine cB.out.mono ?_;rintro e w3 ⟨rfl,rfl⟩;clear cB
               go_wp2_with fail
               refine cY.out.mono ?_;rintro e w4 ⟨rfl,n4,rfl⟩;clear cY;go_wp2;go_roundw
               case rel=>exact ⟨j+1,true,by omega,by go_num,rfl,below_drewN (hbel.alloc hszr _) n4,hst⟩
               case measure=>simp[intOf];omega
          ·have hpb:=eqB_false hpd;have hnm:¬ (np ⟨yp,yk,yd⟩=D.data.toList∧(⟨yp,yk,yd⟩:Nd).kind=4):=fun h=>hpd (WideShapes.bytes_inj h.1)
           cases bb with
           | false=>
            have hst:Hid (scan D.data.toList N.data.toList (ns.take (j+1))=some false):=by
             show _=_;rw[hnx];simp only[stepS,if_neg hnm,if_true]
            clear hnx hnm hpd hy HSC;go_wp2;go_roundw
            case rel=>exact ⟨j+1,false,by omega,by go_num,rfl,hbel.alloc hszr _,hst⟩
            case measure=>simp[intOf];omega
           | true=>
            have cB:=hide (below_any yp D (wr.alloc (.cells #[.string yp,.int .i64 yk,.string yd] 42)) (by omega) (by omega));rw[belowL_eq]at cB;cases hB:belL yp.data.toList D.data.toList with
            | false=>
             have hst:scan D.data.toList N.data.toList (ns.take (j+1))=none:=by
              rw[hnx];simp only[stepS,if_neg hnm];simp[np,hB]
             have hRf:=hdeadR.out (j+1) (by omega) hst;subst hRf;rw[hB]at cB;clear hnx hnm hpd hy HSC hdeadR hendR hst hB
             go_wp2_with fail
             refine cB.out.mono ?_;rintro e w3 ⟨rfl,rfl⟩;clear cB;go_wp2;go_ret;exact ⟨rfl,hbel.alloc hszr _⟩
            | true=>
             rw[hB]at cB;have cY:=hide (rsplit_any yp (wr.alloc (.cells #[.string yp,.int .i64 yk,.string yd] 42)) (by omega));have hdd2:=dirOf_data yp;have hnd2:=nam_dataV yp
             by_cases hup:dirOf yp=D
             ·have hupb:=eqB_true hup;cases hBL:Op.bytesLess (nam yp).toList N.toList with
              | true=>
               have hst:Hid (scan D.data.toList N.data.toList (ns.take (j+1))=some true):=by
                have hb1:bl (namL (np ⟨yp,yk,yd⟩)) N.data.toList=true:=by
                 show Op.bytesLess (namL yp.data.toList) N.data.toList=true;rw[← hnd2,← ByteArray.toList_eq,← ByteArray.toList_eq];exact hBL
                show _=_;rw[hnx];exact stepS_go _ _ _ hnm hB (fun h=>by rw[hb1]at h;cases h.2)
               generalize dirOf yp=up at cY hupb;generalize nam yp=last at cY hBL;clear hnx hnm hpd hy HSC hB hdd2 hnd2 hup
               go_wp2_with fail
               refine cB.out.mono ?_;rintro e w3 ⟨rfl,rfl⟩;clear cB
               go_wp2_with fail
               refine cY.out.mono ?_;rintro e w4 ⟨rfl,n4,rfl⟩;clear cY;go_wp2;go_roundw
               case rel=>exact ⟨j+1,true,by omega,by go_num,rfl,below_drewN (hbel.alloc hszr _) n4,hst⟩
               case measure=>simp[intOf];omega
              | false=>
               have hst:scan D.data.toList N.data.toList (ns.take (j+1))=none:=by
                have hb1:bl (namL (np ⟨yp,yk,yd⟩)) N.data.toList=false:=by
                 show Op.bytesLess (namL yp.data.toList) N.data.toList=false;rw[← hnd2,← ByteArray.toList_eq,← ByteArray.toList_eq];exact hBL
                have hd1:dirL (np ⟨yp,yk,yd⟩)=D.data.toList:=by
                 show dirL yp.data.toList=_;rw[← hdd2,hup]
                rw[hnx];exact stepS_stop _ _ _ hnm hB ⟨hd1,hb1⟩
               have hRf:=hdeadR.out (j+1) (by omega) hst;subst hRf;generalize dirOf yp=up at cY hupb;generalize nam yp=last at cY hBL;clear hnx hnm hpd hy HSC hB hdd2 hnd2 hup hdeadR hendR hst
               go_wp2_with fail
               refine cB.out.mono ?_;rintro e w3 ⟨rfl,rfl⟩;clear cB
               go_wp2_with fail
               refine cY.out.mono ?_;rintro e w4 ⟨rfl,n4,rfl⟩;clear cY;go_wp2;go_ret;exact ⟨rfl,below_drewN (hbel.alloc hszr _) n4⟩
             ·have hupb:=eqB_false hup;have hst:Hid (scan D.data.toList N.data.toList (ns.take (j+1))=some true):=by
               have hd1:¬ dirL (np ⟨yp,yk,yd⟩)=D.data.toList:=by
                show ¬ dirL yp.data.toList=_;rw[← hdd2];exact fun e=>hup (WideShapes.bytes_inj e)
               show _=_;rw[hnx];exact stepS_go _ _ _ hnm hB (fun h=>hd1 h.1)
              generalize dirOf yp=up at cY hupb;generalize nam yp=last at cY;clear hnx hnm hpd hy HSC hB hdd2 hnd2 hup
              go_wp2_with fail
              refine cB.out.mono ?_;rintro e w3 ⟨rfl,rfl⟩;clear cB
              go_wp2_with fail
              refine cY.out.mono ?_;rintro e w4 ⟨rfl,n4,rfl⟩;clear cY;go_wp2;go_roundw
              case rel=>exact ⟨j+1,true,by omega,by go_num,rfl,below_drewN (hbel.alloc hszr _) n4,hst⟩
              case measure=>simp[intOf];omega
         ·obtain rfl:j=k:=by omega
          have hRv:=hendR.out bb HSC.out;subst hRv;clear hendR hdeadR HSC;go_wp2;go_ret;exact ⟨rfl,hbel⟩
 ·have h30z:(30:Int)≤k:=by omega
  rw[decide_eq_false h30]at hR;simp only[Bool.false_and]at hR;subst hR;go_enter Tryz.func67,Tryz.ntmps67;go_wp2;go_ret;exact ⟨rfl,(Below.refl _ _).alloc (Nat.le_refl _) _⟩
end Go.Proofs.YticfcjmlphhpgaaGreatDoor
