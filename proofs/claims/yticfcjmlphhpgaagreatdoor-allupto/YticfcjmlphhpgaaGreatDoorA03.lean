import Derived.Test.YticfcjmlphhpgaaGreatDoorA02
set_option maxRecDepth 100000
set_option maxHeartbeats 4000000
namespace Go.Proofs.YticfcjmlphhpgaaGreatDoor
open Go.RowKit
def lRes (o:Option Nat):Array Value:=match o with | none=>#[.int .i64 0,.bool false] | some n=>#[.int .i64 (n:Int),.bool true]
def valG (L:List UInt8) (pos c0:Nat):Nat→Nat
 | 0=>c0
 | k+1=>64*valG L pos c0 k+bt L (pos+(k+1)) % 64
theorem refW_bad (b0 b1 b2 b3:Nat) (h:b0<32∨b0=47∨b0=127):refW b0 b1 b2 b3=none:=by unfold refW;rw[if_pos h]
theorem refW_asc (b0 b1 b2 b3:Nat) (h:¬ (b0<32∨b0=47∨b0=127)) (h2:b0<128):refW b0 b1 b2 b3=some 1:=by unfold refW;rw[if_neg h,if_pos h2]
theorem refW_none (b0 b1 b2 b3:Nat) (h:128≤b0) (h2:b0<194∨245≤b0):refW b0 b1 b2 b3=none:=by
 unfold refW;rw[if_neg (by omega),if_neg (by omega),if_neg (by omega),if_neg (by omega),if_neg (by omega)]
theorem refW_2 (b0 b1 b2 b3:Nat) (h:194≤b0∧b0<224):refW b0 b1 b2 b3=if cnt b1 then some 2 else none:=by
 unfold refW;rw[if_neg (by omega),if_neg (by omega),if_pos h]
theorem refW_3 (b0 b1 b2 b3:Nat) (h:224≤b0∧b0<240):refW b0 b1 b2 b3=if (cnt b1∧cnt b2)∧2048≤64*(64*(b0 % 16)+b1 % 64)+b2 % 64∧¬ (55296≤64*(64*(b0 % 16)+b1 % 64)+b2 % 64∧64*(64*(b0 % 16)+b1 % 64)+b2 % 64<57344) then some 3 else none:=by
 unfold refW;rw[if_neg (by omega),if_neg (by omega),if_neg (by omega),if_pos h]
theorem refW_4 (b0 b1 b2 b3:Nat) (h:240≤b0∧b0<245):refW b0 b1 b2 b3=if (cnt b1∧cnt b2∧cnt b3)∧65536≤64*(64*(64*(b0 % 8)+b1 % 64)+b2 % 64)+b3 % 64∧64*(64*(64*(b0 % 8)+b1 % 64)+b2 % 64)+b3 % 64≤1114111 then some 4 else none:=by
 unfold refW;rw[if_neg (by omega),if_neg (by omega),if_neg (by omega),if_neg (by omega),if_pos h]
theorem letters_any (s:ByteArray) (w:World) (hs:s.size≤1000000000):Calls Tryz.prog 124 #[.string s] w fun e w'=>e=.returned (.tuple (lRes (letters s.data.toList)))∧w'=w:=by
 obtain ⟨R,hR⟩:∃R,letters s.data.toList=R:=⟨_,rfl⟩;rw[hR];have HR:=hide hR;clear hR;go_enter Tryz.func124,Tryz.ntmps124;go_wp2
 go_loop [4,5,6,7,8] (fun n i _ _ _=>∃pos q:Nat,pos≤s.size∧q≤pos∧i=.int .i64 pos∧n=.int .i64 q∧Hid (R=(letters (s.data.toList.drop pos)).map (·+q))) (fun _ i _ _ _=>s.size - (intOf i).toNat)
 case atStart=>exact ⟨0,0,by omega,by omega,rfl,rfl,by show _=_;rw[← HR.out];simp⟩
 case round=>
  obtain ⟨pos,q,hpos,hq,rfl,rfl,HRq⟩:=hrel
  by_cases hp:pos<s.size
  ·have hst:=letters_ref s.data.toList pos (by simpa using hp);rw[bt_at s pos hp]at hst;have HST:=hide hst;have hc:=(s[pos]).toNat_lt;have hc0:(0:Int)≤s[pos].toNat:=by omega
   have hc1:(s[pos].toNat:Int)<256:=by omega
   have hfail:Hid (refW s[pos].toNat (bt s.data.toList (pos+1)) (bt s.data.toList (pos+2)) (bt s.data.toList (pos+3))=none→R=none):=fun h=>by
    rw[HRq.out,HST.out,h];rfl
   have hgo:Hid (∀k,refW s[pos].toNat (bt s.data.toList (pos+1)) (bt s.data.toList (pos+2)) (bt s.data.toList (pos+3))=some k→R=(letters (s.data.toList.drop (pos+k))).map (·+(q+1))):=fun k h=>by
    rw[HRq.out,HST.out,h];simp only;cases letters (s.data.toList.drop (pos+k)) with
    | none=>rfl
    | some x=>simp;omega
   clear hst HST HRq HR
   by_cases hbad:s[pos].toNat<32∨s[pos].toNat=47∨s[pos].toNat=127
   ·have hRn:=hfail.out (refW_bad _ _ _ _ hbad);subst hRn;clear hfail hgo;rcases hbad with h | h | h
    ·have hz:(s[pos].toNat:Int)<32:=by omega
     go_wp2
     go_ret2
     exact ⟨rfl,rfl⟩
    ·have hz:¬ (s[pos].toNat:Int)<32:=by omega
     have hz2:((s[pos].toNat:Int) == 47)=true:=by simp[h]
     clear h;go_wp2
     go_ret2
     exact ⟨rfl,rfl⟩
    ·have hz:¬ (s[pos].toNat:Int)<32:=by omega
     have hz2:((s[pos].toNat:Int) == 47)=false:=beq_eq_false_iff_ne.2 (by omega);have hz3:((s[pos].toNat:Int) == 127)=true:=by simp[h]
     clear h;go_wp2
     go_ret2
     exact ⟨rfl,rfl⟩
   ·have hz:¬ (s[pos].toNat:Int)<32:=by omega
    have hz2:((s[pos].toNat:Int) == 47)=false:=beq_eq_false_iff_ne.2 (by omega);have hz3:((s[pos].toNat:Int) == 127)=false:=beq_eq_false_iff_ne.2 (by omega)
    by_cases h128:s[pos].toNat<128
    ·have hz4:(s[pos].toNat:Int)<128:=by omega
     have hR1:=hgo.out 1 (refW_asc _ _ _ _ hbad h128);have HR1:=hide hR1;clear hfail hgo hR1 hbad h128;go_wp2;refine wp_loop_rounds 1 ?_;rw[rounds_succ];go_wp2
     go_round
     case rel=>exact ⟨pos+1,q+1,by omega,by omega,by go_num,by go_num,HR1⟩
     case measure=>simp[intOf];omega
    ·have hz4:¬ (s[pos].toNat:Int)<128:=by omega
     by_cases hcl:s[pos].toNat<194∨245≤s[pos].toNat
     ·have hRn:=hfail.out (refW_none _ _ _ _ (by omega) hcl);subst hRn;clear hfail hgo hbad h128;rcases hcl with h | h
      ·have g1:(s[pos].toNat:Int)<194:=by omega
       clear h;go_wp2
       go_ret2
       exact ⟨rfl,rfl⟩
      ·have g1:(245:Int)≤s[pos].toNat:=by omega
       clear h;go_wp2
       go_ret2
       exact ⟨rfl,rfl⟩
     ·rcases (show (194≤s[pos].toNat∧s[pos].toNat<224)∨(224≤s[pos].toNat∧s[pos].toNat<240)∨(240≤s[pos].toNat∧s[pos].toNat<245) by omega) with hk | hk | hk
      ·have g1:(194:Int)≤s[pos].toNat:=by omega
       have g2:(s[pos].toNat:Int)<224:=by omega
       clear hbad h128 hcl;go_wp2
       go_loop [6,8] (fun cs ks=>∃kk c:Nat,1≤kk∧kk≤2∧ks=.int .i64 kk∧cs=.int .i64 (c:Int)∧c<32*64 ^ (kk - 1)∧Hid (c=valG s.data.toList pos (s[pos].toNat % 32) (kk - 1))∧Hid (∀j,1≤j→j<kk→cnt (bt s.data.toList (pos+j)))∧Hid (pos+kk≤s.size)) (fun _ ks=>10 - (intOf ks).toNat)
       case atStart=>exact ⟨1,s[pos].toNat % 32,by omega,by omega,rfl,by go_num,by simp;omega,rfl,(fun j h1 h2=>by omega),by show _≤_;omega⟩
       case round=>
        obtain ⟨kk,c,hk1,hk2,rfl,rfl,hcb,hcv,hno,hin⟩:=hrel;have hcb2:c<8388608:=by
         rcases (show kk=1∨kk=2∨kk=3∨kk=4 by omega) with rfl | rfl | rfl | rfl <;> simp at hcb <;> omega
        by_cases hkm:kk≤1
        ·by_cases hcn:cnt (bt s.data.toList (pos+kk))
         ·have hlt:pos+kk<s.size:=by
           rcases Nat.lt_or_ge (pos+kk) s.size with h | h
           ·exact h
           ·rw[bt_out _ _ (by simpa using h)]at hcn;exact absurd hcn.1 (by decide)
          have hbt:=bt_at s (pos+kk) hlt;rw[hbt]at hcn;have b1:(128:Int)≤s[pos+kk].toNat:=by have:=hcn.1;omega
          have b2:(s[pos+kk].toNat:Int)≤191:=by have:=hcn.2;omega
          have hltz:(pos:Int)+kk<s.size:=by omega
          have HB:=hide hbt;have HCN:=hide hcn;clear hbt hcn hfail hgo;go_wp2
          go_round
          case rel=>
           refine ⟨kk+1,64*c+s[pos+kk].toNat % 64,by omega,by omega,by go_num,by go_num,?_,?_,?_,?_⟩
           ·obtain ⟨z,rfl⟩:∃z,kk=z+1:=⟨kk - 1,by omega⟩;simp only[Nat.add_sub_cancel]at hcb ⊢;rw[Nat.pow_succ];omega
           ·show _=_;obtain ⟨z,rfl⟩:∃z,kk=z+1:=⟨kk - 1,by omega⟩;have h1:=hcv.out;simp only[Nat.add_sub_cancel]at h1 ⊢;rw[valG,← h1,HB.out]
           ·intro j h1 h2
            by_cases e:j=kk
            ·subst e;rw[HB.out];exact HCN.out
            ·exact hno.out j h1 (by omega)
           ·show _≤_;omega
          case measure=>simp[intOf];omega
         ·have hRn:=hfail.out (by
           rw[refW_2 _ _ _ _ hk];apply if_neg;intro h;obtain rfl:kk=1:=by omega
           exact hcn h)
          subst hRn;have hcase:¬ pos+kk<s.size∨∃h:pos+kk<s.size,s[pos+kk].toNat<128∨(128≤s[pos+kk].toNat∧191<s[pos+kk].toNat):=by
           by_cases hlt:pos+kk<s.size
           ·right
            refine ⟨hlt,?_⟩;rw[bt_at s (pos+kk) hlt]at hcn;unfold cnt at hcn;omega
           ·exact .inl hlt
          clear hfail hgo hcn hcv hno;rcases hcase with hlt | ⟨hlt,h | ⟨h,h'⟩⟩
          ·have hltz:¬ (pos:Int)+kk<s.size:=by omega
           have hltb:decide ((s.size:Int)≤(pos:Int)+kk)=true:=decide_eq_true (by omega);go_wp2
           go_ret2
           exact ⟨rfl,rfl⟩
          ·have hltz:(pos:Int)+kk<s.size:=by omega
           have b1:(s[pos+kk].toNat:Int)<128:=by omega
           clear h;go_wp2
           go_ret2
           exact ⟨rfl,rfl⟩
          ·have hltz:(pos:Int)+kk<s.size:=by omega
           have b1:¬ (s[pos+kk].toNat:Int)<128:=by omega
           have b2:(191:Int)<s[pos+kk].toNat:=by omega
           clear h h';go_wp2
           go_ret2
           exact ⟨rfl,rfl⟩
        ·obtain rfl:kk=2:=by omega
         have hRv:=hgo.out 2 (by rw[refW_2 _ _ _ _ hk,if_pos (hno.out 1 (by omega) (by omega))]);have HRv:=hide hRv;clear hfail hgo hRv hcv hno;go_wp2
         go_round
         case rel=>exact ⟨pos+2,q+1,by have:=hin.out;omega,by omega,by go_num,by go_num,HRv⟩
         case measure=>simp[intOf];omega
      ·have g1:(224:Int)≤s[pos].toNat:=by omega
       have g2:(s[pos].toNat:Int)<240:=by omega
       clear hbad h128 hcl;go_wp2
       go_loop [6,8] (fun cs ks=>∃kk c:Nat,1≤kk∧kk≤3∧ks=.int .i64 kk∧cs=.int .i64 (c:Int)∧c<32*64 ^ (kk - 1)∧Hid (c=valG s.data.toList pos (s[pos].toNat % 16) (kk - 1))∧Hid (∀j,1≤j→j<kk→cnt (bt s.data.toList (pos+j)))∧Hid (pos+kk≤s.size)) (fun _ ks=>10 - (intOf ks).toNat)
       case atStart=>exact ⟨1,s[pos].toNat % 16,by omega,by omega,rfl,by go_num,by simp;omega,rfl,(fun j h1 h2=>by omega),by show _≤_;omega⟩
       case round=>
        obtain ⟨kk,c,hk1,hk2,rfl,rfl,hcb,hcv,hno,hin⟩:=hrel;have hcb2:c<8388608:=by
         rcases (show kk=1∨kk=2∨kk=3∨kk=4 by omega) with rfl | rfl | rfl | rfl <;> simp at hcb <;> omega
        by_cases hkm:kk≤2
        ·by_cases hcn:cnt (bt s.data.toList (pos+kk))
         ·have hlt:pos+kk<s.size:=by
           rcases Nat.lt_or_ge (pos+kk) s.size with h | h
           ·exact h
           ·rw[bt_out _ _ (by simpa using h)]at hcn;exact absurd hcn.1 (by decide)
          have hbt:=bt_at s (pos+kk) hlt;rw[hbt]at hcn;have b1:(128:Int)≤s[pos+kk].toNat:=by have:=hcn.1;omega
          have b2:(s[pos+kk].toNat:Int)≤191:=by have:=hcn.2;omega
          have hltz:(pos:Int)+kk<s.size:=by omega
          have HB:=hide hbt;have HCN:=hide hcn;clear hbt hcn hfail hgo;go_wp2
          go_round
          case rel=>
           refine ⟨kk+1,64*c+s[pos+kk].toNat % 64,by omega,by omega,by go_num,by go_num,?_,?_,?_,?_⟩
           ·obtain ⟨z,rfl⟩:∃z,kk=z+1:=⟨kk - 1,by omega⟩;simp only[Nat.add_sub_cancel]at hcb ⊢;rw[Nat.pow_succ];omega
           ·show _=_;obtain ⟨z,rfl⟩:∃z,kk=z+1:=⟨kk - 1,by omega⟩;have h1:=hcv.out;simp only[Nat.add_sub_cancel]at h1 ⊢;rw[valG,← h1,HB.out]
           ·intro j h1 h2
            by_cases e:j=kk
            ·subst e;rw[HB.out];exact HCN.out
            ·exact hno.out j h1 (by omega)
           ·show _≤_;omega
          case measure=>simp[intOf];omega
         ·have hRn:=hfail.out (by
           rw[refW_3 _ _ _ _ hk];apply if_neg;intro h;rcases (show kk=1∨kk=2 by omega) with rfl | rfl
           ·exact hcn h.1.1
           ·exact hcn h.1.2)
          subst hRn;have hcase:¬ pos+kk<s.size∨∃h:pos+kk<s.size,s[pos+kk].toNat<128∨(128≤s[pos+kk].toNat∧191<s[pos+kk].toNat):=by
           by_cases hlt:pos+kk<s.size
           ·right
            refine ⟨hlt,?_⟩;rw[bt_at s (pos+kk) hlt]at hcn;unfold cnt at hcn;omega
           ·exact .inl hlt
          clear hfail hgo hcn hcv hno;rcases hcase with hlt | ⟨hlt,h | ⟨h,h'⟩⟩
          ·have hltz:¬ (pos:Int)+kk<s.size:=by omega
           have hltb:decide ((s.size:Int)≤(pos:Int)+kk)=true:=decide_eq_true (by omega);go_wp2
           go_ret2
           exact ⟨rfl,rfl⟩
          ·have hltz:(pos:Int)+kk<s.size:=by omega
           have b1:(s[pos+kk].toNat:Int)<128:=by omega
           clear h;go_wp2
           go_ret2
           exact ⟨rfl,rfl⟩
          ·have hltz:(pos:Int)+kk<s.size:=by omega
           have b1:¬ (s[pos+kk].toNat:Int)<128:=by omega
           have b2:(191:Int)<s[pos+kk].toNat:=by omega
           clear h h';go_wp2
           go_ret2
           exact ⟨rfl,rfl⟩
        ·obtain rfl:kk=3:=by omega
         have hcv2:c=64*(64*(s[pos].toNat % 16)+bt s.data.toList (pos+1) % 64)+bt s.data.toList (pos+2) % 64:=hcv.out;have k12:=And.intro (hno.out 1 (by omega) (by omega)) (hno.out 2 (by omega) (by omega));have hrf:=refW_3 s[pos].toNat (bt s.data.toList (pos+1)) (bt s.data.toList (pos+2)) (bt s.data.toList (pos+3)) hk;rw[← hcv2]at hrf
         by_cases kv:2048≤c∧¬ (55296≤c∧c<57344)
         ·rw[if_pos ⟨k12,kv⟩]at hrf;have hRv:=hgo.out 3 hrf;have HRv:=hide hRv;have v1:¬ (c:Int)<2048:=by omega
          have hkv:(c:Int)<55296∨(57344:Int)≤c:=by omega
          clear hfail hgo hRv hcv hno hrf hcv2 k12 kv;have hb1:decide ((c:Int)<2048)=false:=decide_eq_false v1;have hb2:(decide ((55296:Int)≤c)=false)∨(decide ((55296:Int)≤c)=true∧decide ((c:Int)<57344)=false):=by
           rcases hkv with h | h
           ·left;exact decide_eq_false (by omega)
           ·right;exact ⟨decide_eq_true (by omega),decide_eq_false (by omega)⟩
          clear hkv v1;rcases hb2 with v2 | ⟨v2,v3⟩
          all_goals
           go_wp2
           go_round
           case rel=>exact ⟨pos+3,q+1,by have:=hin.out;omega,by omega,by go_num,by go_num,HRv⟩
           case measure=>simp[intOf];omega
         ·rw[if_neg (fun h=>kv h.2)]at hrf;have hRn:=hfail.out hrf;subst hRn;have hkv:(c:Int)<2048∨(¬ (c:Int)<2048∧(55296:Int)≤c∧(c:Int)<57344):=by omega
          clear hfail hgo hcv hno hrf hcv2 k12 kv;rcases hkv with v2 | ⟨v1,v2,v3⟩
          all_goals
           go_wp2
           go_ret2
           exact ⟨rfl,rfl⟩
      ·have g1:(240:Int)≤s[pos].toNat:=by omega
       have g2:(s[pos].toNat:Int)<245:=by omega
       clear hbad h128 hcl;go_wp2
       go_loop [6,8] (fun cs ks=>∃kk c:Nat,1≤kk∧kk≤4∧ks=.int .i64 kk∧cs=.int .i64 (c:Int)∧c<32*64 ^ (kk - 1)∧Hid (c=valG s.data.toList pos (s[pos].toNat % 8) (kk - 1))∧Hid (∀j,1≤j→j<kk→cnt (bt s.data.toList (pos+j)))∧Hid (pos+kk≤s.size)) (fun _ ks=>10 - (intOf ks).toNat)
       case atStart=>exact ⟨1,s[pos].toNat % 8,by omega,by omega,rfl,by go_num,by simp;omega,rfl,(fun j h1 h2=>by omega),by show _≤_;omega⟩
       case round=>
        obtain ⟨kk,c,hk1,hk2,rfl,rfl,hcb,hcv,hno,hin⟩:=hrel;have hcb2:c<8388608:=by
         rcases (show kk=1∨kk=2∨kk=3∨kk=4 by omega) with rfl | rfl | rfl | rfl <;> simp at hcb <;> omega
        by_cases hkm:kk≤3
        ·by_cases hcn:cnt (bt s.data.toList (pos+kk))
         ·have hlt:pos+kk<s.size:=by
           rcases Nat.lt_or_ge (pos+kk) s.size with h | h
           ·exact h
           ·rw[bt_out _ _ (by simpa using h)]at hcn;exact absurd hcn.1 (by decide)
          have hbt:=bt_at s (pos+kk) hlt;rw[hbt]at hcn;have b1:(128:Int)≤s[pos+kk].toNat:=by have:=hcn.1;omega
          have b2:(s[pos+kk].toNat:Int)≤191:=by have:=hcn.2;omega
          have hltz:(pos:Int)+kk<s.size:=by omega
          have HB:=hide hbt;have HCN:=hide hcn;clear hbt hcn hfail hgo;go_wp2
          go_round
          case rel=>
           refine ⟨kk+1,64*c+s[pos+kk].toNat % 64,by omega,by omega,by go_num,by go_num,?_,?_,?_,?_⟩
           ·obtain ⟨z,rfl⟩:∃z,kk=z+1:=⟨kk - 1,by omega⟩;simp only[Nat.add_sub_cancel]at hcb ⊢;rw[Nat.pow_succ];omega
           ·show _=_;obtain ⟨z,rfl⟩:∃z,kk=z+1:=⟨kk - 1,by omega⟩;have h1:=hcv.out;simp only[Nat.add_sub_cancel]at h1 ⊢;rw[valG,← h1,HB.out]
           ·intro j h1 h2
            by_cases e:j=kk
            ·subst e;rw[HB.out];exact HCN.out
            ·exact hno.out j h1 (by omega)
           ·show _≤_;omega
          case measure=>simp[intOf];omega
         ·have hRn:=hfail.out (by
           rw[refW_4 _ _ _ _ hk];apply if_neg;intro h;rcases (show kk=1∨kk=2∨kk=3 by omega) with rfl | rfl | rfl
           ·exact hcn h.1.1
           ·exact hcn h.1.2.1
           ·exact hcn h.1.2.2)
          subst hRn;have hcase:¬ pos+kk<s.size∨∃h:pos+kk<s.size,s[pos+kk].toNat<128∨(128≤s[pos+kk].toNat∧191<s[pos+kk].toNat):=by
           by_cases hlt:pos+kk<s.size
           ·right
            refine ⟨hlt,?_⟩;rw[bt_at s (pos+kk) hlt]at hcn;unfold cnt at hcn;omega
           ·exact .inl hlt
          clear hfail hgo hcn hcv hno;rcases hcase with hlt | ⟨hlt,h | ⟨h,h'⟩⟩
          ·have hltz:¬ (pos:Int)+kk<s.size:=by omega
           have hltb:decide ((s.size:Int)≤(pos:Int)+kk)=true:=decide_eq_true (by omega);go_wp2
           go_ret2
           exact ⟨rfl,rfl⟩
          ·have hltz:(pos:Int)+kk<s.size:=by omega
           have b1:(s[pos+kk].toNat:Int)<128:=by omega
           clear h;go_wp2
           go_ret2
           exact ⟨rfl,rfl⟩
          ·have hltz:(pos:Int)+kk<s.size:=by omega
           have b1:¬ (s[pos+kk].toNat:Int)<128:=by omega
           have b2:(191:Int)<s[pos+kk].toNat:=by omega
           clear h h';go_wp2
           go_ret2
           exact ⟨rfl,rfl⟩
        ·obtain rfl:kk=4:=by omega
         have hcv2:c=64*(64*(64*(s[pos].toNat % 8)+bt s.data.toList (pos+1) % 64)+bt s.data.toList (pos+2) % 64)+bt s.data.toList (pos+3) % 64:=hcv.out;have k12:=And.intro (hno.out 1 (by omega) (by omega)) (And.intro (hno.out 2 (by omega) (by omega)) (hno.out 3 (by omega) (by omega)));have hrf:=refW_4 s[pos].toNat (bt s.data.toList (pos+1)) (bt s.data.toList (pos+2)) (bt s.data.toList (pos+3)) hk;rw[← hcv2]at hrf
         by_cases kv:65536≤c∧c≤1114111
         ·rw[if_pos ⟨k12,kv⟩]at hrf;have hRv:=hgo.out 4 hrf;have HRv:=hide hRv;have v1:¬ (c:Int)<65536:=by omega
          have v2:¬ (1114111:Int)<c:=by omega
          clear hfail hgo hRv hcv hno hrf hcv2 k12 kv;go_wp2
          go_round
          case rel=>exact ⟨pos+4,q+1,by have:=hin.out;omega,by omega,by go_num,by go_num,HRv⟩
          case measure=>simp[intOf];omega
         ·rw[if_neg (fun h=>kv h.2)]at hrf;have hRn:=hfail.out hrf;subst hRn;have hkv:(c:Int)<65536∨(¬ (c:Int)<65536∧(1114111:Int)<c):=by omega
          clear hfail hgo hcv hno hrf hcv2 k12 kv;rcases hkv with v2 | ⟨v1,v2⟩
          all_goals
           go_wp2
           go_ret2
           exact ⟨rfl,rfl⟩
  ·obtain rfl:pos=s.size:=by omega
   have hRv:R=some q:=by rw[HRq.out,List.drop_of_length_le (by simp),letters_nil];simp
   subst hRv;clear HR HRq;go_wp2
   go_ret2
   exact ⟨rfl,rfl⟩
end Go.Proofs.YticfcjmlphhpgaaGreatDoor
