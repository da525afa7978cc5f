import Derived.Test.YticfcjmlphhpgaaGreatDoorA13
set_option maxRecDepth 20000
set_option maxHeartbeats 4000000
namespace Go.Proofs.YticfcjmlphhpgaaGreatDoor
open Go.RowKit
def KeyAt (w:World) (key:Nat→ByteArray) (f:Nat→Nat) (n:Nat):Prop:=∀i,i<n→∃x y,w.heap[f i]?=some (.cells #[.string (key (f i)),x,y] 158 (0,0))
def ltK (key:Nat→ByteArray) (a b:Nat):Bool:=Op.bytesLess (key a).toList (key b).toList
theorem KeyAt.hk {w w':World} {key:Nat→ByteArray} {f g:Nat→Nat} {n B q:Nat} (h:KeyAt w key f n) (hQ:QAt w B q f n) (hs:HP.Same n f g) (hk:HK B q w w'):KeyAt w' key g n:=by
 intro i hi;obtain ⟨k,hkn,e⟩:=hs.ab i hi;obtain ⟨x,y,hb⟩:=h k hkn;obtain ⟨a,c,hq,_⟩:=hQ.at_;rw[← e];refine ⟨x,y,(hk.blk _ (Array.getElem?_eq_some_iff.1 hb).1 (fun e2=>?_) (fun cur fz e2=>?_)).trans hb⟩
 ·rw[e2,hq]at hb;simp at hb
 ·rw[hb]at e2;simp at e2
theorem QAt.drewN {w:World} {B q n:Nat} {f:Nat→Nat} (h:QAt w B q f n) (m:Nat):QAt (w.drewN m) B q f n:=⟨h.le,h.at_⟩
theorem HK.drewN (B q:Nat) (w:World) (m:Nat):HK B q w (w.drewN m):=⟨below_drewN (Below.refl _ _) m,fun _ _ _ _=>rfl⟩
theorem qLess_Q {w:World} {B q n c i k:Nat} {a:Option Addr} {f:Nat→Nat} {key:Nat→ByteArray} (hQ:w.heap[q]?=some (.cells #[.slice a n c] 154 (0,0))) (ho:w.ownsRow B 245 1 (.slice a n c) n (rowV f n)) (hle:B≤q) (hK:KeyAt w key f n) (hi:i<n) (hk:k<n) :
  Calls Tryz.prog 203 #[.slice a n c,.int .i64 i,.int .i64 k] w fun e w'=>e=.returned (.bool (ltK key (f i) (f k)))∧QAt w' B q f n∧HK B q w w':=by
 obtain ⟨g,cap,hs,hcap⟩:=own_form ho (by omega);injection hs with e1 _ e3
 subst e1 e3;obtain ⟨x1,y1,k1⟩:=hK i hi;obtain ⟨x2,y2,k2⟩:=hK k hk;refine (qLess_any g 0 c n i k (f i) (f k) (key (f i)) (key (f k)) w hi hk ?_ ?_ (by simp[World.cell?,k1]) (by simp[World.cell?,k2])).mono ?_
 ·rw[Nat.zero_add];exact (ho.cellAt i (by omega)).trans (rowV_get f hi)
 ·rw[Nat.zero_add];exact (ho.cellAt k (by omega)).trans (rowV_get f hk)
 ·rintro e w' ⟨rfl,m,rfl⟩;exact ⟨rfl,QAt.drewN ⟨hle,_,_,hQ,ho⟩ m,HK.drewN _ _ _ _⟩
theorem qSwap_Q {w:World} {B q n c i k:Nat} {a:Option Addr} {f:Nat→Nat} (hQ:w.heap[q]?=some (.cells #[.slice a n c] 154 (0,0))) (ho:w.ownsRow B 245 1 (.slice a n c) n (rowV f n)) (hle:B≤q) (hi:i<n) (hk:k<n) :
  Calls Tryz.prog 206 #[.slice a n c,.int .i64 i,.int .i64 k] w fun e w'=>e=.returned (.tuple #[])∧QAt w' B q (HP.swp f i k) n∧HK B q w w':=by
 obtain ⟨g,cap,hs,hcap⟩:=own_form ho (by omega);injection hs with e1 _ e3
 subst e1 e3;have hg:=(ho.lt g rfl).1;have c1:=(ho.cellAt i (by omega)).trans (rowV_get f hi);have c2:=(ho.cellAt k (by omega)).trans (rowV_get f hk);have f1:=ho.frozenAt i;have f2:=ho.frozenAt k;obtain ⟨s1,s1'⟩:=ho.stored i (ptrV (f k));obtain ⟨s2,s2'⟩:=s1.stored k (ptrV (f i));rw[rowV_swp f hi hk]at s2;have hne:q≠g:=fun e=>own_ne hQ ho (by rw[e];rfl)
 have fin:∀w2,w2=((w.setCell ⟨g,i,none⟩ (ptrV (f k))).setCell ⟨g,k,none⟩ (ptrV (f i))).drew→QAt w2 B q (HP.swp f i k) n∧HK B q w w2:=by
  rintro w2 rfl;refine ⟨QAt.drew ⟨hle,_,_,?_,s2⟩,HK.drew ⟨?_,fun x h1 h2 h3=>?_⟩⟩
  ·exact (Below.heap_setCell _ _ _ _ hne).trans ((Below.heap_setCell _ _ _ _ hne).trans hQ)
  ·exact ((Below.refl B w).setCell hg _).setCell hg _
  ·have hx:x≠g:=fun e=>own_blk ho h3 (by rw[e];rfl)
   exact (Below.heap_setCell _ _ _ _ hx).trans (Below.heap_setCell _ _ _ _ hx)
 by_cases e:i=k
 ·subst e;refine (qSwap_one g 0 c n i (some ⟨f i,0,none⟩) w hi (by rw[Nat.zero_add];exact c1) (by rw[Nat.zero_add];exact f1)).mono ?_;rintro e w' ⟨rfl,h⟩;rw[Nat.zero_add]at h;exact ⟨rfl,fin w' h⟩
 ·refine (qSwap_two g 0 c n i k (some ⟨f i,0,none⟩) (some ⟨f k,0,none⟩) w hi hk e (by rw[Nat.zero_add];exact c1) (by rw[Nat.zero_add];exact c2) (by rw[Nat.zero_add];exact f1) (by rw[Nat.zero_add];exact f2)).mono ?_;rintro e w' ⟨rfl,h⟩;rw[Nat.zero_add,Nat.zero_add]at h;exact ⟨rfl,fin w' h⟩
theorem up_any (B q n j:Nat) (f:Nat→Nat) (key:Nat→ByteArray) (w:World) (h:QAt w B q f n) (hn:n≤1000) (hK:KeyAt w key f n) (hj:j<n) (hU:HP.UpI (ltK key) f n j) (hO:HP.Or (ltK key)) :
  Calls Tryz.prog 130 #[.iface 152 (.pointer (some ⟨q,0,none⟩)),.int .i64 j] w fun e w'=>e=.returned (.tuple #[])∧∃g,QAt w' B q g n∧HP.IsHeap (ltK key) g n∧HP.Same n f g∧HK B q w w':=by
 have HH:=hide h;have HKK:=hide hK;have HO:=hide hO;have HU:=hide hU;clear h hK hO hU;have nl:=nil_Less ⟨q,0,none⟩;have ns:=nil_Swap ⟨q,0,none⟩;go_enter Tryz.func130,Tryz.ntmps130;go_wp2
 go_loopw [1,4] (fun jv _ w1=>∃(i:Nat) (g:Nat→Nat),jv=.int .i64 i∧i<n∧Hid (QAt w1 B q g n)∧Hid (HP.UpI (ltK key) g n i)∧Hid (HP.Same n f g)∧Hid (HK B q w w1)) (fun jv _ _=>(intOf jv).toNat)
 case atStart=>exact ⟨j,f,rfl,hj,HH,HU,hide (HP.Same.refl _ _),hide (HK.refl _ _ _)⟩
 case round=>
  obtain ⟨i,g,rfl,hi,HQ1,HU1,HS1,HK1⟩:=hrel
  by_cases h0:i=0
  ·subst h0;go_wp2;go_end0;exact ⟨rfl,g,HQ1.out,HU1.out.end0,HS1.out,HK1.out⟩
  ·have hp:HP.par i<i:=HP.par_lt (by omega);have hdiv:((i:Int) - 1).tdiv 2=(HP.par i:Nat):=by
    rw[Int.tdiv_eq_ediv_of_nonneg (by omega)];unfold HP.par;omega
   have hpi:HP.par i<n:=by omega
   obtain ⟨a,c,hq,ho⟩:=HQ1.out.at_;have ml:=meth_Less hq;have cL:=hide (qLess_Q hq ho HQ1.out.le (HKK.out.hk HH.out HS1.out HK1.out) hi hpi);have hpz:¬ (HP.par i:Int)=i:=by omega
   have hstep:=hide (HU1.out.step HO.out (by omega) hi);have hstop:=hide HU1.out.stop;generalize HP.par i=p at *;clear HU1 ho;cases hl:ltK key (g i) (g p) with
   | false=>
    rw[hl]at cL
    go_wp2_with fail
    refine cL.out.mono ?_;rintro e w2 ⟨rfl,hQ2,hK2⟩;have HQ2:=hide hQ2;have HK2:=hide (HK1.out.trans hK2);clear hQ2 hK2 cL ml;go_wp2;go_end0;exact ⟨rfl,g,HQ2.out,hstop.out hl,HS1.out,HK2.out⟩
   | true=>
    rw[hl]at cL
    go_wp2_with fail
    refine cL.out.mono ?_;rintro e w2 ⟨rfl,hQ2,hK2⟩;obtain ⟨a2,c2,hq2,ho2⟩:=hQ2.at_;have ms:=meth_Swap hq2;have cS:=hide (qSwap_Q hq2 ho2 hQ2.le hpi hi);have HK2:=hide (HK1.out.trans hK2);clear hQ2 hK2 cL ml ho2
    go_wp2_with fail
    refine cS.out.mono ?_;rintro e w3 ⟨rfl,hQ3,hK3⟩;have HQ3:=hide hQ3;have HK3:=hide (HK2.out.trans hK3);have HS3:=hide (HS1.out.trans (HP.Same.swp n g hpi hi));have HU3:=hide (hstep.out hl);clear hQ3 hK3 cS ms hq2;go_wp2;go_roundw
    case rel=>exact ⟨p,_,rfl,hpi,HQ3,HU3,HS3,HK3⟩
    case measure=>simp[intOf];omega
theorem heapPush_any (B q n b:Nat) (f:Nat→Nat) (key:Nat→ByteArray) (w:World) (h:QAt w B q f n) (hn:n<1000) (hK:KeyAt w key (HP.ext f n b) (n+1)) (hH:HP.IsHeap (ltK key) f n) (hO:HP.Or (ltK key)) :
  Calls Tryz.prog 103 #[.iface 152 (.pointer (some ⟨q,0,none⟩)),.iface 155 (.pointer (some ⟨b,0,none⟩))] w fun e w'=>e=.returned (.tuple #[])∧∃g,QAt w' B q g (n+1)∧HP.IsHeap (ltK key) g (n+1)∧HP.Same (n+1) (HP.ext f n b) g∧HK B q w w':=by
 have cP:=hide (qPush_any B q b n f w h (by omega));have cU:Hid (∀w1,QAt w1 B q (HP.ext f n b) (n+1)→HK B q w w1→Calls Tryz.prog 130 #[.iface 152 (.pointer (some ⟨q,0,none⟩)),.int .i64 n] w1 fun e w'=>e=.returned (.tuple #[])∧∃g,QAt w' B q g (n+1)∧HP.IsHeap (ltK key) g (n+1)∧HP.Same (n+1) (HP.ext f n b) g∧HK B q w1 w'):=hide fun w1 hQ hk=>by
  refine up_any B q (n+1) n _ key w1 hQ (by omega) ?_ (by omega) (hH.push b) hO;intro i hi;obtain ⟨x,y,hb⟩:=hK i hi;obtain ⟨a,c,hq,_⟩:=h.at_;refine ⟨x,y,(hk.blk _ (Array.getElem?_eq_some_iff.1 hb).1 (fun e2=>?_) (fun cur fz e2=>?_)).trans hb⟩
  ·rw[e2,hq]at hb;simp at hb
  ·rw[hb]at e2;simp at e2
 clear h hK hH hO;have np:=nil_Push ⟨q,0,none⟩;have mp:=meth_Push ⟨q,0,none⟩;have nl:=nil_Len ⟨q,0,none⟩;have hz:(((n+1:Nat):Int) - 1)=n:=by omega
 go_enter Tryz.func103,Tryz.ntmps103
 go_wp2_with fail
 refine cP.out.mono ?_;rintro e w1 ⟨rfl,hQ1,hK1⟩;obtain ⟨a1,c1,hq1,ho1⟩:=hQ1.at_;have ml:=meth_Len hq1;have cL:=hide (qLen_any a1 (n+1) c1 w1);have cU1:=hide (cU.out w1 hQ1 hK1);have HK1:=hide hK1;clear cP cU hQ1 hK1 ho1 hq1
 go_wp2_with fail
 refine cL.out.mono ?_;rintro e w2 ⟨rfl,rfl⟩
 go_wp2_with fail
 refine cU1.out.mono ?_;rintro e w3 ⟨rfl,g,hQ3,hH3,hS3,hK3⟩;have HK3:=hide (HK1.out.trans hK3);go_wp2;go_end0;exact ⟨rfl,g,hQ3,hH3,hS3,HK3.out⟩
end Go.Proofs.YticfcjmlphhpgaaGreatDoor
