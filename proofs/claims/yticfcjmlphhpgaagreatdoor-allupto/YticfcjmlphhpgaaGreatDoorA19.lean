import Derived.Test.YticfcjmlphhpgaaGreatDoorA13
import Derived.Test.YticfcjmlphhpgaaGreatDoorA18
set_option maxRecDepth 20000
set_option maxHeartbeats 2000000
namespace Go.Proofs.YticfcjmlphhpgaaGreatDoor
open Go.RowKit
structure REn where
 path:ByteArray
 ta:Option Addr
 tn:Nat
 tc:Nat
 ra:Option Addr
 rn:Nat
 rc:Nat
def REn.tree (x:REn):Value:=.slice x.ta x.tn x.tc
def REn.refs (x:REn):Value:=.slice x.ra x.rn x.rc
def flatR:List REn→List Value
 | []=>[]
 | x :: r=>.string x.path :: x.tree :: x.refs :: flatR r
theorem flatR_length:∀l,(flatR l).length=l.length*3
 | []=>rfl
 | x :: r=>by simp only[flatR,List.length_cons,flatR_length r];omega
theorem flatR_get:∀(l:List REn) (j:Nat) (h:j<l.length),(flatR l)[j*3]?=some (.string l[j].path)∧(flatR l)[j*3+1]?=some l[j].tree∧(flatR l)[j*3+2]?=some l[j].refs
 | [],j,h=>by simp at h
 | x :: r,0,h=>by simp[flatR]
 | x :: r,j+1,h=>by
  have:=flatR_get r j (by simpa using h);rw[show (j+1)*3=j*3+3 by omega];simpa[flatR] using this
theorem flatR_append:∀(a b:List REn),flatR (a++b)=flatR a++flatR b
 | [],b=>rfl
 | x :: r,b=>by simp[flatR,flatR_append r b]
theorem flatR_one:∀(l:List REn),∀u∈flatR l,u.oneCell'=true
 | [],u,h=>by cases h
 | x :: r,u,h=>by
  simp only[flatR,List.mem_cons]at h;rcases h with rfl | rfl | rfl | h
  ·rfl
  ·rfl
  ·rfl
  ·exact flatR_one r u h
def SliceE (w:World) (v:Value) (l:List REn):Prop:=
 ∃a cap,v=.slice a l.length cap∧l.length≤cap∧(0<l.length→∃b off,a=some ⟨b,off,none⟩∧b<w.heap.size∧∀j (h:j<l.length),w.cell? ⟨b,off+j*3,none⟩=some (.string l[j].path)∧w.cell? ⟨b,off+j*3+1,none⟩=some l[j].tree∧w.cell? ⟨b,off+j*3+2,none⟩=some l[j].refs)
theorem SliceE.below {w w':World} {v:Value} {l:List REn} (h:SliceE w v l) (hb:Below w.heap.size w w'):SliceE w' v l:=by
 obtain ⟨a,cap,rfl,h1,h3⟩:=h;refine ⟨a,cap,rfl,h1,fun hn=>?_⟩;obtain ⟨b,off,rfl,h4,h5⟩:=h3 hn;refine ⟨b,off,rfl,Nat.lt_of_lt_of_le h4 hb.size,fun j hj=>?_⟩;obtain ⟨c0,c1,c2⟩:=h5 j hj;exact ⟨(hb.cell h4).trans c0,(hb.cell h4).trans c1,(hb.cell h4).trans c2⟩
def atN (l:List REn) (p:ByteArray):Nat:=l.findIdx fun x=>decide (x.path=p)
def atI (l:List REn) (p:ByteArray):Int:=if atN l p<l.length then (atN l p:Int) else -1
theorem atI_yes {l:List REn} {p:ByteArray} (j:Nat) (h:j<l.length) (he:l[j].path=p) (hall:∀k (hk:k<l.length),k<j→¬ l[k].path=p):atI l p=j:=by
 have e:atN l p=j:=by
  unfold atN;rw[List.findIdx_eq h];exact ⟨decide_eq_true he,fun k hk=>decide_eq_false (hall k (by omega) hk)⟩
 unfold atI;rw[e,if_pos h]
theorem atI_no {l:List REn} {p:ByteArray} (hall:∀k (hk:k<l.length),¬ l[k].path=p):atI l p=-1:=by
 unfold atI;rw[if_neg];intro h;have:=List.findIdx_getElem (w:=h);exact hall _ h (of_decide_eq_true this)
theorem at_any (v:Value) (l:List REn) (p:ByteArray) (w:World) (h:SliceE w v l) (hl:l.length≤1000000000) :
  Calls Tryz.prog 39 #[v,.string p] w fun e w'=>e=.returned (.int .i64 (atI l p))∧Below w.heap.size w w':=by
 obtain ⟨a,cap,rfl,_,hx⟩:=h
 by_cases h0:l.length=0
 ·rw[atI_no (fun k hk=>by omega),h0];go_enter Tryz.func39,Tryz.ntmps39;go_wp2;refine wp_loop_rounds 1 ?_;rw[rounds_succ];go_wp2;go_ret;exact ⟨rfl,Below.refl _ _⟩
 ·obtain ⟨b,off,rfl,hbl,hX⟩:=hx (by omega);have HX:=hide hX;obtain ⟨T,hT⟩:∃T,atI l p=T:=⟨_,rfl⟩;rw[hT];have HT:=hide hT;clear hX hT hx;go_enter Tryz.func39,Tryz.ntmps39;go_wp2
  go_loopw [5,6,9] (fun _ _ i w1=>∃j:Nat,j≤l.length∧i=.int .i64 j∧Hid (Below w.heap.size w w1)∧Hid (∀k (hk:k<l.length),k<j→¬ l[k].path=p)) (fun _ _ i _=>l.length - (intOf i).toNat)
  case atStart=>exact ⟨0,by omega,rfl,hide (Below.refl _ _),hide (fun k _ hk=>by omega)⟩
  case round=>
   obtain ⟨j,hj,rfl,HB,hall⟩:=hrel;have hsz:=HB.out.size
   by_cases hlt:j<l.length
   ·obtain ⟨c0,c1,c2⟩:=HX.out j hlt;rw[← HB.out.cell (p:=⟨b,off+j*3,none⟩) hbl]at c0;rw[← HB.out.cell (p:=⟨b,off+j*3+1,none⟩) hbl]at c1;rw[← HB.out.cell (p:=⟨b,off+j*3+2,none⟩) hbl]at c2;have hltz:(j:Int)<l.length:=by omega
    unfold REn.tree at c1;unfold REn.refs at c2
    by_cases e:l[j].path=p
    ·obtain rfl:T=j:=by rw[← HT.out];exact atI_yes j hlt e hall.out
     have hb:(l[j].path.toList == p.toList)=true:=by rw[e];simp
     generalize l[j]=x at c0 c1 c2 hb;obtain ⟨xp,ta,tn,tc,ra,rn,rc⟩:=x;simp only at c0 c1 c2 hb;clear e hall HT;go_wp2;go_ret;exact ⟨rfl,HB.out.alloc hsz _⟩
    ·have hall':Hid (∀k (hk:k<l.length),k<j+1→¬ l[k].path=p):=fun k hk hkj=>by
      by_cases e':k=j
      ·subst e';exact e
      ·exact hall.out k hk (by omega)
     have hb:=eqB_false e;generalize l[j]=x at c0 c1 c2 hb;obtain ⟨xp,ta,tn,tc,ra,rn,rc⟩:=x;simp only at c0 c1 c2 hb;clear e hall;go_wp2;go_roundw
     case rel=>exact ⟨j+1,by omega,by go_num,hide (HB.out.alloc hsz _),hall'⟩
     case measure=>simp[intOf];omega
   ·obtain rfl:T=-1:=by rw[← HT.out];exact atI_no (fun k hk=>hall.out k hk (by omega))
    clear HT hall;go_wp2;go_ret;exact ⟨rfl,HB.out⟩
structure IsTree (ns:List Nd):Prop where
 right:refWrong ns=none
 small:Small ns
 bulk:bulk ns≤1000000000
theorem refPack_tree (v:Value) (ns:List Nd) (w:World) (h:SliceN w v ns) (ht:IsTree ns):Calls Tryz.prog 50 #[v] w fun e w'=>e=.returned (.string (packB ns))∧Below w.heap.size w w':=by
 obtain ⟨hl,hne,hk⟩:=len30 ns ht.right;obtain ⟨a,cap,rfl,hcap,hmax,_,h4⟩:=h;cases ns with
 | nil=>exact absurd rfl hne
 | cons x F=>
  obtain ⟨b,off,rfl,hbl,hN⟩:=h4 (by simp);have e:packB (x :: F)=strB (refBytes (x :: F)):=by unfold packB;rw[packBytes_eq _ ht.right];rfl
  rw[e];exact refPack_any b off cap x F w hbl hN hcap hmax ht.small ht.bulk hk
theorem rsame_any (x y:REn) (ns ms:List Nd) (rs ss:List ByteArray) (w:World) (hx:SliceN w x.tree ns) (hy:SliceN w y.tree ms) (tx:IsTree ns) (ty:IsTree ms) (rx:SliceS w x.refs rs) (ry:SliceS w y.refs ss) (hl:rs.length≤1000000000) (hl':ss.length≤1000000000) :
  Calls Tryz.prog 40 #[.agg #[.string x.path,x.tree,x.refs],.agg #[.string y.path,y.tree,y.refs]] w fun e w'=>e=.returned (.bool (decide (packB ns=packB ms) && eqL rs ss))∧Below w.heap.size w w':=by
 obtain ⟨xp,ta,tn,tc,ra,rn,rc⟩:=x;obtain ⟨yp,ta',tn',tc',ra',rn',rc'⟩:=y;unfold REn.tree REn.refs at *;simp only at *;have hb0:=((Below.refl _ w).alloc (Nat.le_refl _) (.cells #[.string xp,.slice ta tn tc,.slice ra rn rc] 76)).alloc (by simp) (.cells #[.string yp,.slice ta' tn' tc',.slice ra' rn' rc'] 76);have k0:((w.alloc (.cells #[.string xp,.slice ta tn tc,.slice ra rn rc] 76)).alloc (.cells #[.string yp,.slice ta' tn' tc',.slice ra' rn' rc'] 76)).heap[w.heap.size]?=some (.cells #[.string xp,.slice ta tn tc,.slice ra rn rc] 76 (0,0)):=block_keep _ (block_new w _);have k1:((w.alloc (.cells #[.string xp,.slice ta tn tc,.slice ra rn rc] 76)).alloc (.cells #[.string yp,.slice ta' tn' tc',.slice ra' rn' rc'] 76)).heap[w.heap.size+1]?=some (.cells #[.string yp,.slice ta' tn' tc',.slice ra' rn' rc'] 76 (0,0)):=by
  have:=block_new (w.alloc (.cells #[.string xp,.slice ta tn tc,.slice ra rn rc] 76)) (.cells #[.string yp,.slice ta' tn' tc',.slice ra' rn' rc'] 76)
  rwa [World.size_alloc]at this
 have HX:=hide hx;have HY:=hide hy;have RX:=hide rx;have RY:=hide ry;have HB0:=hide hb0;have K0:=hide k0;have K1:=hide k1;clear hx hy rx ry hb0 k0 k1
 by_cases e:packB ns=packB ms
 ·have hb:((packB ns).toList == (packB ms).toList)=true:=by rw[e];simp
  rw[decide_eq_true e,Bool.true_and];go_enter Tryz.func40,Tryz.ntmps40;go_wp2;generalize (w.alloc (.cells #[.string xp,.slice ta tn tc,.slice ra rn rc] 76)).alloc (.cells #[.string yp,.slice ta' tn' tc',.slice ra' rn' rc'] 76)=W0 at *;have GA:Hid True:=trivial;have c001:W0.cell? ⟨w.heap.size,1,none⟩=some (.slice ta tn tc):=(by simp[World.cell?,K0.out]);have c002:W0.cell? ⟨w.heap.size,2,none⟩=some (.slice ra rn rc):=(by simp[World.cell?,K0.out]);have c011:W0.cell? ⟨w.heap.size+1,1,none⟩=some (.slice ta' tn' tc'):=(by simp[World.cell?,K1.out]);have c012:W0.cell? ⟨w.heap.size+1,2,none⟩=some (.slice ra' rn' rc'):=(by simp[World.cell?,K1.out])
  go_region_with (first
   | (have _g:=GA;clear _g;go_at_call 50;refine (refPack_tree _ ns _ (HX.out.below HB0.out.drew) tx).mono ?_;rintro e w2 ⟨rfl,hb2⟩;have HB2:=hide (HB0.out.drew.trans (hb2.mono HB0.out.drew.size));have L0:=hide ((hb2.block _ (lt_of_block K0.out)).trans K0.out);have L1:=hide ((hb2.block _ (lt_of_block K1.out)).trans K1.out);have c201:w2.cell? ⟨w.heap.size,1,none⟩=some (.slice ta tn tc):=(by simp[World.cell?,L0.out]);have c202:w2.cell? ⟨w.heap.size,2,none⟩=some (.slice ra rn rc):=(by simp[World.cell?,L0.out]);have c211:w2.cell? ⟨w.heap.size+1,1,none⟩=some (.slice ta' tn' tc'):=(by simp[World.cell?,L1.out]);have c212:w2.cell? ⟨w.heap.size+1,2,none⟩=some (.slice ra' rn' rc'):=(by simp[World.cell?,L1.out]);clear GA hb2)
   | (go_at_call 50;refine (refPack_tree _ ms w2 (HY.out.below HB2.out) ty).mono ?_;rintro e w3 ⟨rfl,hb3⟩;have HB3:=hide (HB2.out.trans (hb3.mono HB2.out.size));have M0:=hide ((hb3.block _ (lt_of_block L0.out)).trans L0.out);have M1:=hide ((hb3.block _ (lt_of_block L1.out)).trans L1.out);have c301:w3.cell? ⟨w.heap.size,1,none⟩=some (.slice ta tn tc):=(by simp[World.cell?,M0.out]);have c302:w3.cell? ⟨w.heap.size,2,none⟩=some (.slice ra rn rc):=(by simp[World.cell?,M0.out]);have c311:w3.cell? ⟨w.heap.size+1,1,none⟩=some (.slice ta' tn' tc'):=(by simp[World.cell?,M1.out]);have c312:w3.cell? ⟨w.heap.size+1,2,none⟩=some (.slice ra' rn' rc'):=(by simp[World.cell?,M1.out]);clear hb3)
   | (go_at_call 68;refine (rsameText_any _ _ rs ss w3 (RX.out.below HB3.out) (RY.out.below HB3.out) hl hl').mono ?_;rintro e w4 ⟨rfl,hb4⟩;have HB4:=hide (HB3.out.trans (hb4.mono HB3.out.size))))
  all_goals
   go_wp2;go_ret;exact ⟨rfl,HB4.out⟩
 ·have hb:((packB ns).toList == (packB ms).toList)=false:=eqB_false e;rw[decide_eq_false e,Bool.false_and];go_enter Tryz.func40,Tryz.ntmps40;go_wp2;generalize (w.alloc (.cells #[.string xp,.slice ta tn tc,.slice ra rn rc] 76)).alloc (.cells #[.string yp,.slice ta' tn' tc',.slice ra' rn' rc'] 76)=W0 at *;have GA:Hid True:=trivial;have c001:W0.cell? ⟨w.heap.size,1,none⟩=some (.slice ta tn tc):=(by simp[World.cell?,K0.out]);have c002:W0.cell? ⟨w.heap.size,2,none⟩=some (.slice ra rn rc):=(by simp[World.cell?,K0.out]);have c011:W0.cell? ⟨w.heap.size+1,1,none⟩=some (.slice ta' tn' tc'):=(by simp[World.cell?,K1.out]);have c012:W0.cell? ⟨w.heap.size+1,2,none⟩=some (.slice ra' rn' rc'):=(by simp[World.cell?,K1.out])
  first
   | (go_region_with (first
   | (have _g:=GA;clear _g;go_at_call 50;refine (refPack_tree _ ns _ (HX.out.below HB0.out.drew) tx).mono ?_;rintro e w2 ⟨rfl,hb2⟩;have HB2:=hide (HB0.out.drew.trans (hb2.mono HB0.out.drew.size));have L0:=hide ((hb2.block _ (lt_of_block K0.out)).trans K0.out);have L1:=hide ((hb2.block _ (lt_of_block K1.out)).trans K1.out);have c201:w2.cell? ⟨w.heap.size,1,none⟩=some (.slice ta tn tc):=(by simp[World.cell?,L0.out]);have c202:w2.cell? ⟨w.heap.size,2,none⟩=some (.slice ra rn rc):=(by simp[World.cell?,L0.out]);have c211:w2.cell? ⟨w.heap.size+1,1,none⟩=some (.slice ta' tn' tc'):=(by simp[World.cell?,L1.out]);have c212:w2.cell? ⟨w.heap.size+1,2,none⟩=some (.slice ra' rn' rc'):=(by simp[World.cell?,L1.out]);clear GA hb2)
   | (go_at_call 50;refine (refPack_tree _ ms w2 (HY.out.below HB2.out) ty).mono ?_;rintro e w3 ⟨rfl,hb3⟩;have HB3:=hide (HB2.out.trans (hb3.mono HB2.out.size));have M0:=hide ((hb3.block _ (lt_of_block L0.out)).trans L0.out);have M1:=hide ((hb3.block _ (lt_of_block L1.out)).trans L1.out);have c301:w3.cell? ⟨w.heap.size,1,none⟩=some (.slice ta tn tc):=(by simp[World.cell?,M0.out]);have c302:w3.cell? ⟨w.heap.size,2,none⟩=some (.slice ra rn rc):=(by simp[World.cell?,M0.out]);have c311:w3.cell? ⟨w.heap.size+1,1,none⟩=some (.slice ta' tn' tc'):=(by simp[World.cell?,M1.out]);have c312:w3.cell? ⟨w.heap.size+1,2,none⟩=some (.slice ra' rn' rc'):=(by simp[World.cell?,M1.out]);clear hb3)))
   | fail
  all_goals
   go_wp2;go_ret;exact ⟨rfl,HB3.out⟩
end Go.Proofs.YticfcjmlphhpgaaGreatDoor
