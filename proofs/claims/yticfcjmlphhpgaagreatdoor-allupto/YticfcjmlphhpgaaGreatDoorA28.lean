import Derived.Test.YticfcjmlphhpgaaGreatDoorA17
import Derived.Test.YticfcjmlphhpgaaGreatDoorA21
import Derived.Test.YticfcjmlphhpgaaGreatDoorA24
import Derived.Test.YticfcjmlphhpgaaGreatDoorA27
import Derived.Maps.AppendAt
set_option maxRecDepth 20000
set_option maxHeartbeats 4000000
namespace Go.Proofs.YticfcjmlphhpgaaGreatDoor
open Go.RowKit
theorem rnode_link {B R:Nat} {w:World} {s:ByteArray} {v:Value} {st:Ns} (h:QR B R w s v st) (hs:s.size≤50000000) (path:ByteArray) (deep:Nat)
  (hw:(wordN s.data.toList [wFile,wLink,wDir] (headN s.data.toList deep st)).2=wLink) :
  Calls Tryz.prog 87 #[.pointer (some ⟨R,0,none⟩),.string path,.int .i64 deep] w fun e w'=>(∃r,e=.returned r)∧QQ B R w s (linkN s.data.toList path (wordN s.data.toList [wFile,wLink,wDir] (headN s.data.toList deep st)).1) w':=by
 obtain ⟨i45,hi,hz0,hz1,hz2⟩:=info_parts Tryz.info42;have he3:=word_some (may:=[wFile,wLink,wDir]) (st:=headN s.data.toList deep st) (by rw[hw];decide);obtain ⟨he2,hg3⟩:=word_grow he3;obtain ⟨_,hg2⟩:=head_grow he2;obtain ⟨h5,h30,hhd⟩:=head_ok he2;have hl3:=word_l s.data.toList [wFile,wLink,wDir] (headN s.data.toList deep st);rw[hhd]at hw he3 hg3 hg2 hl3 ⊢;rw[must_l,must_l]at hl3;obtain ⟨a,cap,rfl,hcap⟩:=own_slice h.nd;have hllp:=h.ll;have cM1:=hide (rmust_any h wOpen hs);have c1:w.cell? ⟨R,1,none⟩=some (.int .i64 st.pos):=by simp[World.cell?,h.blk]
 have h5z:¬ (5:Int)<deep:=by omega
 have h30z:¬ (st.l.length:Int)=30:=by omega
 have h30b:((st.l.length:Int) == 30)=false:=beq_eq_false_iff_ne.2 h30z;generalize e1:mustN s.data.toList wOpen st=st1 at *;generalize e2:mustN s.data.toList wType st1=st2 at *;generalize e3:wordN s.data.toList [wFile,wLink,wDir] st2=WX at *;obtain ⟨st3,t⟩:=WX;simp only at hw he3 hg3 hl3 ⊢;have E2:=hide e2;have E3:=hide e3;unfold linkN leadN;have hm4:=must_mono s.data.toList wTo st3;have hl4:=must_l s.data.toList wTo st3;generalize e4:mustN s.data.toList wTo st3=st4 at *;rw[hl3]at hl4;have E4:=hide e4;have tbf:=list_ne (show ¬ t=wFile by rw[hw];decide) _ file_list;have tb:=list_eq hw _ link_list;have hm5:=next_mono s.data.toList 100 st4;have hl5:=next_l s.data.toList 100 st4;have hd5:=next_size s.data.toList 100 st4;generalize e5:nextN s.data.toList 100 st4=NX at *;obtain ⟨st5,d⟩:=NX;simp only at hm5 hl5 hd5 ⊢;rw[hl4]at hl5;have E5:=hide e5;have hL5:=congrArg List.length hl5;have hP5:st5.l.length+1≤st5.pos:=by omega
 clear h hw e1 e2 e3 e4 e5 hhd he2 h30 hl3 hl4 hl5 hL5;cases hf:fits 3 d.data.toList with
 | true=>
  have eF:Ns.failIf st5 (!true) 6 st4.pos=st5:=rfl;rw[eF];have hP:st5.l.length+1≤st5.pos:=hP5;clear eF hP5;go_enter Tryz.func87,Tryz.ntmps87
  go_wp2_with fail
  refine cM1.out.mono ?_;rintro e w1 ⟨⟨r,rfl⟩,hq1⟩;have Q1:=hide hq1;have c4:w1.cell? ⟨R,4,none⟩=some (.slice a st.l.length cap):=by simp[World.cell?,hq1.1.blk]
  have cM2:=hide (rmust_any hq1.1 wType hs);rw[E2.out]at cM2;clear cM1 c1 hq1
  go_wp2_with fail
  refine cM2.out.mono ?_;rintro e w2 ⟨⟨r2,rfl⟩,hq2⟩;have Q2:=hide (Q1.out.trans hq2);have cW:=hide (rword_new hq2.1 [wFile,wLink,wDir] #[.string ⟨#[102,105,108,101]⟩,.string ⟨#[108,105,110,107]⟩,.string ⟨#[100,105,114]⟩] rfl 3 rfl w2.heap.size rfl (by simp) hs);rw[E3.out]at cW;clear cM2 c4 hq2 Q1
  go_wp2_with fail
  refine cW.out.mono ?_;rintro e w3 ⟨rfl,hq3⟩;have Q3:=hide (Q2.out.trans hq3);have cT:=hide (rmust_any Q3.out.1 wTo hs);rw[E4.out]at cT;clear cW hq3 Q2
  go_wp2_with fail
  refine cT.out.mono ?_;rintro e w4 ⟨⟨r4,rfl⟩,hq4⟩;have Q4:=hide (Q3.out.trans hq4);have cN:=hide (rnext_any hq4.1 100 (by omega) hs);rw[E5.out]at cN;have c1:w4.cell? ⟨R,1,none⟩=some (.int .i64 st4.pos):=by simp[World.cell?,hq4.1.blk]
  clear cT hq4 Q3
  go_wp2_with fail
  refine cN.out.mono ?_;rintro e w5 ⟨rfl,hq5⟩;have Q5:=hide (Q4.out.trans hq5);have cL:=hide (filled_any 3 d w5 (by omega));rw[hf]at cL;clear cN c1 hq5 Q4
  go_wp2_with fail
  refine cL.out.mono ?_;rintro e w5b ⟨rfl,rfl⟩;clear cL;have O5:=hide Q5.out.1.nd;have c45:w5b.cell? ⟨R,4,none⟩=some (.slice a st.l.length cap):=by simp[World.cell?,Q5.out.1.blk]
  have hrow5:=hide (fun e:some R=(Value.slice a st.l.length cap).ownBlock=>Q5.out.1.row e.symm);have hle5:=Q5.out.1.le;have hR5:=Q5.out.1.lt;have hB5:=Q5.out.1.Bw
  go_wp2_with (at_builtin;refine wpList_append_own _ rfl (.tmp 81) (.tmp 85) 25 rfl B 42 i45 (.agg #[.string ⟨#[]⟩,.int .i64 0,.string ⟨#[]⟩]) 3 40 Tryz.underlying25 hi hz0 hz1 hz2 rfl (by decide) (.slice a st.l.length cap) st5.l.length (flat3 st5.l) rfl (O5.out.alloc _) ⟨w5b.heap.size,0,none⟩ 1 1 [.string path,.int .i64 3,.string d] rfl rfl (cell_three_at _ _ _ _ _ _ rfl) (fun x hx=>by simp at hx;rcases hx with rfl | rfl | rfl <;> rfl) (by unfold maxLen;omega) (by omega) (by simp;try omega) ?_;intro v6 w6 hown6 hgrow6 hat6;obtain ⟨g6,cap6,rfl,hcap6⟩:=own_form hown6 (by omega);have hR6:=hide ((hgrow6.block R (by simp;try omega) hrow5.out).trans (block_keep (w:=w5b) _ Q5.out.1.blk));have c46:w6.cell? ⟨R,4,none⟩=some (.slice a st.l.length cap):=(by simp[World.cell?,hR6.out]);have f46:w6.frozen? ⟨R,4,none⟩=false:=(by simp[World.frozen?,hR6.out]);obtain ⟨hR7,hB7,hK7⟩:=Q5.out.1.push ⟨path,3,d⟩ hown6 (((KT.refl [42] w5b).alloc _).grown (O5.out.alloc _) hgrow6 (by decide)) (((Below.refl B w5b).alloc hB5 _).grown hgrow6 (by simp;try omega) (fun k hk=>(O5.out.lt k hk).1)) hP;have HR7:=hide hR7;have HB7:=hide hB7;have HK7:=hide hK7;clear hown6 hgrow6 hat6 hR7 hB7 hK7 hR6)
  generalize w6.setCell ⟨R,4,none⟩ (.slice (some ⟨g6,0,none⟩) (st5.l.length+1) cap6)=W7 at HR7 HB7 HK7 ⊢;have cC:=hide (rmust_any HR7.out wClose hs);clear c46 f46 c45 HR7
  go_wp2_with fail
  refine cC.out.mono ?_;rintro e w8 ⟨⟨r8,rfl⟩,hq8⟩;go_wp2;go_end0;exact ⟨⟨_,rfl⟩,Q5.out.q ⟨⟨_,hq8.1⟩,HB7.out.trans hq8.2.1,HK7.out.trans (hq8.2.2.mono (by decide))⟩⟩
 | false=>
  have eF:Ns.failIf st5 (!false) 6 st4.pos=st5.fail 6 st4.pos:=rfl;rw[eF];have hP:(st5.fail 6 st4.pos).l.length+1≤(st5.fail 6 st4.pos).pos:=by rw[(fail_l _ _ _).1,(fail_l _ _ _).2];exact hP5
  clear eF hP5;generalize eG:st5.fail 6 st4.pos=st6 at *;have E6:=hide eG;clear eG;go_enter Tryz.func87,Tryz.ntmps87
  go_wp2_with fail
  refine cM1.out.mono ?_;rintro e w1 ⟨⟨r,rfl⟩,hq1⟩;have Q1:=hide hq1;have c4:w1.cell? ⟨R,4,none⟩=some (.slice a st.l.length cap):=by simp[World.cell?,hq1.1.blk]
  have cM2:=hide (rmust_any hq1.1 wType hs);rw[E2.out]at cM2;clear cM1 c1 hq1
  go_wp2_with fail
  refine cM2.out.mono ?_;rintro e w2 ⟨⟨r2,rfl⟩,hq2⟩;have Q2:=hide (Q1.out.trans hq2);have cW:=hide (rword_new hq2.1 [wFile,wLink,wDir] #[.string ⟨#[102,105,108,101]⟩,.string ⟨#[108,105,110,107]⟩,.string ⟨#[100,105,114]⟩] rfl 3 rfl w2.heap.size rfl (by simp) hs);rw[E3.out]at cW;clear cM2 c4 hq2 Q1
  go_wp2_with fail
  refine cW.out.mono ?_;rintro e w3 ⟨rfl,hq3⟩;have Q3:=hide (Q2.out.trans hq3);have cT:=hide (rmust_any Q3.out.1 wTo hs);rw[E4.out]at cT;clear cW hq3 Q2
  go_wp2_with fail
  refine cT.out.mono ?_;rintro e w4 ⟨⟨r4,rfl⟩,hq4⟩;have Q4:=hide (Q3.out.trans hq4);have cN:=hide (rnext_any hq4.1 100 (by omega) hs);rw[E5.out]at cN;have c1:w4.cell? ⟨R,1,none⟩=some (.int .i64 st4.pos):=by simp[World.cell?,hq4.1.blk]
  clear cT hq4 Q3
  go_wp2_with fail
  refine cN.out.mono ?_;rintro e w5 ⟨rfl,hq5⟩;have Q5:=hide (Q4.out.trans hq5);have cL:=hide (filled_any 3 d w5 (by omega));rw[hf]at cL;clear cN c1 hq5 Q4
  go_wp2_with fail
  refine cL.out.mono ?_;rintro e w5b ⟨rfl,rfl⟩;clear cL;have cF:=hide (rfail_any Q5.out.1 6 st4.pos);rw[E6.out]at cF
  go_wp2_with fail
  refine cF.out.mono ?_;rintro e wF ⟨⟨rF,rfl⟩,hqF⟩;have QF:=hide (Q5.out.trans hqF);clear cF hqF Q5;have O5:=hide QF.out.1.nd;have c45:wF.cell? ⟨R,4,none⟩=some (.slice a st.l.length cap):=by simp[World.cell?,QF.out.1.blk]
  have hrow5:=hide (fun e:some R=(Value.slice a st.l.length cap).ownBlock=>QF.out.1.row e.symm);have hle5:=QF.out.1.le;have hR5:=QF.out.1.lt;have hB5:=QF.out.1.Bw
  go_wp2_with (at_builtin;refine wpList_append_own _ rfl (.tmp 81) (.tmp 85) 25 rfl B 42 i45 (.agg #[.string ⟨#[]⟩,.int .i64 0,.string ⟨#[]⟩]) 3 40 Tryz.underlying25 hi hz0 hz1 hz2 rfl (by decide) (.slice a st.l.length cap) st6.l.length (flat3 st6.l) rfl (O5.out.alloc _) ⟨wF.heap.size,0,none⟩ 1 1 [.string path,.int .i64 3,.string d] rfl rfl (cell_three_at _ _ _ _ _ _ rfl) (fun x hx=>by simp at hx;rcases hx with rfl | rfl | rfl <;> rfl) (by unfold maxLen;omega) (by omega) (by simp;try omega) ?_;intro v6 w6 hown6 hgrow6 hat6;obtain ⟨g6,cap6,rfl,hcap6⟩:=own_form hown6 (by omega);have hR6:=hide ((hgrow6.block R (by simp;try omega) hrow5.out).trans (block_keep (w:=wF) _ QF.out.1.blk));have c46:w6.cell? ⟨R,4,none⟩=some (.slice a st.l.length cap):=(by simp[World.cell?,hR6.out]);have f46:w6.frozen? ⟨R,4,none⟩=false:=(by simp[World.frozen?,hR6.out]);obtain ⟨hR7,hB7,hK7⟩:=QF.out.1.push ⟨path,3,d⟩ hown6 (((KT.refl [42] wF).alloc _).grown (O5.out.alloc _) hgrow6 (by decide)) (((Below.refl B wF).alloc hB5 _).grown hgrow6 (by simp;try omega) (fun k hk=>(O5.out.lt k hk).1)) hP;have HR7:=hide hR7;have HB7:=hide hB7;have HK7:=hide hK7;clear hown6 hgrow6 hat6 hR7 hB7 hK7 hR6)
  generalize w6.setCell ⟨R,4,none⟩ (.slice (some ⟨g6,0,none⟩) (st6.l.length+1) cap6)=W7 at HR7 HB7 HK7 ⊢;have cC:=hide (rmust_any HR7.out wClose hs);clear c46 f46 c45 HR7
  go_wp2_with fail
  refine cC.out.mono ?_;rintro e w8 ⟨⟨r8,rfl⟩,hq8⟩;go_wp2;go_end0;exact ⟨⟨_,rfl⟩,QF.out.q ⟨⟨_,hq8.1⟩,HB7.out.trans hq8.2.1,HK7.out.trans (hq8.2.2.mono (by decide))⟩⟩
theorem rnode_none {B R:Nat} {w:World} {s:ByteArray} {v:Value} {st:Ns} (h:QR B R w s v st) (hs:s.size≤50000000) (path:ByteArray) (deep:Nat) (hdp:deep≤100000000)
  (hw1:¬ (wordN s.data.toList [wFile,wLink,wDir] (headN s.data.toList deep st)).2=wFile) (hw2:¬ (wordN s.data.toList [wFile,wLink,wDir] (headN s.data.toList deep st)).2=wLink) (hw3:¬ (wordN s.data.toList [wFile,wLink,wDir] (headN s.data.toList deep st)).2=wDir) :
  Calls Tryz.prog 87 #[.pointer (some ⟨R,0,none⟩),.string path,.int .i64 deep] w fun e w'=>(∃r,e=.returned r)∧QQ B R w s (wordN s.data.toList [wFile,wLink,wDir] (headN s.data.toList deep st)).1 w':=by
 obtain ⟨a,cap,rfl,hcap⟩:=own_slice h.nd;have hllp:=h.ll;have hle:=h.le;have cM1:=hide (rmust_any h wOpen hs);have c1:w.cell? ⟨R,1,none⟩=some (.int .i64 st.pos):=by simp[World.cell?,h.blk]
 generalize e3:wordN s.data.toList [wFile,wLink,wDir] (headN s.data.toList deep st)=WX at *;obtain ⟨st3,t⟩:=WX;simp only at hw1 hw2 hw3 ⊢;unfold headN at e3;generalize e1:mustN s.data.toList wOpen st=st1 at *;have tb1:=list_ne hw1 _ file_list;have tb2:=list_ne hw2 _ link_list;have tb3:=list_ne hw3 _ dir_list;clear h hw1 hw2 hw3 e1
 by_cases h5:5<deep
 ·by_cases h30:st.l.length=30
  ·have h5z:(5:Int)<deep:=by omega
   rw[decide_eq_true h5]at e3;have h30z:(st.l.length:Int)=30:=by omega
   have h30b:((st.l.length:Int) == 30)=true:=by rw[h30z];rfl
   rw[decide_eq_true h30]at e3;have E3:=hide e3;clear e3 h30 h30z;go_enter Tryz.func87,Tryz.ntmps87
   go_wp2_with fail
   refine cM1.out.mono ?_;rintro e w1 ⟨⟨r,rfl⟩,hq1⟩;have Q1:=hide hq1;clear cM1 c1 hq1;have cF:=hide (rfail_any Q1.out.1 8 st.pos)
   go_wp2_with fail
   refine cF.out.mono ?_;rintro e wF ⟨⟨rF,rfl⟩,hqF⟩;have QF:=hide (Q1.out.trans hqF);clear cF hqF Q1;have c4:wF.cell? ⟨R,4,none⟩=some (.slice a st.l.length cap):=by simp[World.cell?,QF.out.1.blk]
   have cG:=hide (rfail_any QF.out.1 9 st.pos)
   go_wp2_with fail
   refine cG.out.mono ?_;rintro e wG ⟨⟨rG,rfl⟩,hqG⟩;have QG:=hide (QF.out.trans hqG);clear cG hqG QF;have cM2:=hide (rmust_any QG.out.1 wType hs)
   go_wp2_with fail
   refine cM2.out.mono ?_;rintro e w2 ⟨⟨r2,rfl⟩,hq2⟩;have Q2:=hide (QG.out.trans hq2);have cW:=hide (rword_new hq2.1 [wFile,wLink,wDir] #[.string ⟨#[102,105,108,101]⟩,.string ⟨#[108,105,110,107]⟩,.string ⟨#[100,105,114]⟩] rfl 3 rfl w2.heap.size rfl (by simp) hs);have E3':wordN s.data.toList [wFile,wLink,wDir] (mustN s.data.toList wType ((st1.fail 8 st.pos).fail 9 st.pos))=(st3,t):=E3.out;rw[E3']at cW;clear cM2 c4 hq2 QG E3 E3'
   go_wp2_with fail
   refine cW.out.mono ?_;rintro e w3 ⟨rfl,hq3⟩;go_wp2;go_end0;exact ⟨⟨_,rfl⟩,(Q2.out.trans hq3).qq⟩
  ·have h5z:(5:Int)<deep:=by omega
   rw[decide_eq_true h5]at e3;have h30z:¬ (st.l.length:Int)=30:=by omega
   have h30b:((st.l.length:Int) == 30)=false:=beq_eq_false_iff_ne.2 h30z;rw[decide_eq_false h30]at e3;have E3:=hide e3;clear e3 h30 h30z;go_enter Tryz.func87,Tryz.ntmps87
   go_wp2_with fail
   refine cM1.out.mono ?_;rintro e w1 ⟨⟨r,rfl⟩,hq1⟩;have Q1:=hide hq1;clear cM1 c1 hq1;have cF:=hide (rfail_any Q1.out.1 8 st.pos)
   go_wp2_with fail
   refine cF.out.mono ?_;rintro e wF ⟨⟨rF,rfl⟩,hqF⟩;have QF:=hide (Q1.out.trans hqF);clear cF hqF Q1;have c4:wF.cell? ⟨R,4,none⟩=some (.slice a st.l.length cap):=by simp[World.cell?,QF.out.1.blk]
   have cM2:=hide (rmust_any QF.out.1 wType hs)
   go_wp2_with fail
   refine cM2.out.mono ?_;rintro e w2 ⟨⟨r2,rfl⟩,hq2⟩;have Q2:=hide (QF.out.trans hq2);have cW:=hide (rword_new hq2.1 [wFile,wLink,wDir] #[.string ⟨#[102,105,108,101]⟩,.string ⟨#[108,105,110,107]⟩,.string ⟨#[100,105,114]⟩] rfl 3 rfl w2.heap.size rfl (by simp) hs);have E3':wordN s.data.toList [wFile,wLink,wDir] (mustN s.data.toList wType (st1.fail 8 st.pos))=(st3,t):=E3.out;rw[E3']at cW;clear cM2 c4 hq2 QF E3 E3'
   go_wp2_with fail
   refine cW.out.mono ?_;rintro e w3 ⟨rfl,hq3⟩;go_wp2;go_end0;exact ⟨⟨_,rfl⟩,(Q2.out.trans hq3).qq⟩
 ·by_cases h30:st.l.length=30
  ·have h5z:¬ (5:Int)<deep:=by omega
   rw[decide_eq_false h5]at e3;have h30z:(st.l.length:Int)=30:=by omega
   have h30b:((st.l.length:Int) == 30)=true:=by rw[h30z];rfl
   rw[decide_eq_true h30]at e3;have E3:=hide e3;clear e3 h30 h30z;go_enter Tryz.func87,Tryz.ntmps87
   go_wp2_with fail
   refine cM1.out.mono ?_;rintro e w1 ⟨⟨r,rfl⟩,hq1⟩;have Q1:=hide hq1;clear cM1 c1 hq1;have c4:w1.cell? ⟨R,4,none⟩=some (.slice a st.l.length cap):=by simp[World.cell?,Q1.out.1.blk]
   have cG:=hide (rfail_any Q1.out.1 9 st.pos)
   go_wp2_with fail
   refine cG.out.mono ?_;rintro e wG ⟨⟨rG,rfl⟩,hqG⟩;have QG:=hide (Q1.out.trans hqG);clear cG hqG Q1;have cM2:=hide (rmust_any QG.out.1 wType hs)
   go_wp2_with fail
   refine cM2.out.mono ?_;rintro e w2 ⟨⟨r2,rfl⟩,hq2⟩;have Q2:=hide (QG.out.trans hq2);have cW:=hide (rword_new hq2.1 [wFile,wLink,wDir] #[.string ⟨#[102,105,108,101]⟩,.string ⟨#[108,105,110,107]⟩,.string ⟨#[100,105,114]⟩] rfl 3 rfl w2.heap.size rfl (by simp) hs);have E3':wordN s.data.toList [wFile,wLink,wDir] (mustN s.data.toList wType (st1.fail 9 st.pos))=(st3,t):=E3.out;rw[E3']at cW;clear cM2 c4 hq2 QG E3 E3'
   go_wp2_with fail
   refine cW.out.mono ?_;rintro e w3 ⟨rfl,hq3⟩;go_wp2;go_end0;exact ⟨⟨_,rfl⟩,(Q2.out.trans hq3).qq⟩
  ·have h5z:¬ (5:Int)<deep:=by omega
   rw[decide_eq_false h5]at e3;have h30z:¬ (st.l.length:Int)=30:=by omega
   have h30b:((st.l.length:Int) == 30)=false:=beq_eq_false_iff_ne.2 h30z;rw[decide_eq_false h30]at e3;have E3:=hide e3;clear e3 h30 h30z;go_enter Tryz.func87,Tryz.ntmps87
   go_wp2_with fail
   refine cM1.out.mono ?_;rintro e w1 ⟨⟨r,rfl⟩,hq1⟩;have Q1:=hide hq1;clear cM1 c1 hq1;have c4:w1.cell? ⟨R,4,none⟩=some (.slice a st.l.length cap):=by simp[World.cell?,Q1.out.1.blk]
   have cM2:=hide (rmust_any Q1.out.1 wType hs)
   go_wp2_with fail
   refine cM2.out.mono ?_;rintro e w2 ⟨⟨r2,rfl⟩,hq2⟩;have Q2:=hide (Q1.out.trans hq2);have cW:=hide (rword_new hq2.1 [wFile,wLink,wDir] #[.string ⟨#[102,105,108,101]⟩,.string ⟨#[108,105,110,107]⟩,.string ⟨#[100,105,114]⟩] rfl 3 rfl w2.heap.size rfl (by simp) hs);have E3':wordN s.data.toList [wFile,wLink,wDir] (mustN s.data.toList wType st1)=(st3,t):=E3.out;rw[E3']at cW;clear cM2 c4 hq2 Q1 E3 E3'
   go_wp2_with fail
   refine cW.out.mono ?_;rintro e w3 ⟨rfl,hq3⟩;go_wp2;go_end0;exact ⟨⟨_,rfl⟩,(Q2.out.trans hq3).qq⟩
theorem rnode_dir {B R:Nat} {w:World} {s:ByteArray} {v:Value} {st:Ns} (h:QR B R w s v st) (hs:s.size≤50000000) (path:ByteArray) (deep:Nat)
  (hw:(wordN s.data.toList [wFile,wLink,wDir] (headN s.data.toList deep st)).2=wDir) (f:Nat) (hD:DirC s f) (hf:s.size - st.pos<f) (hp:path.size≤st.pos) (hd:deep≤st.pos) :
  Calls Tryz.prog 87 #[.pointer (some ⟨R,0,none⟩),.string path,.int .i64 deep] w fun e w'=>(∃r,e=.returned r)∧QQ B R w s ((fun z=>dirN s.data.toList f path deep ⟨#[]⟩ (z.push ⟨path,4,⟨#[]⟩⟩)) (wordN s.data.toList [wFile,wLink,wDir] (headN s.data.toList deep st)).1) w':=by
 obtain ⟨i45,hi,hz0,hz1,hz2⟩:=info_parts Tryz.info42;have he3:=word_some (may:=[wFile,wLink,wDir]) (st:=headN s.data.toList deep st) (by rw[hw];decide);obtain ⟨he2,hg3⟩:=word_grow he3;obtain ⟨_,hg2⟩:=head_grow he2;obtain ⟨h5,h30,hhd⟩:=head_ok he2;have hl3:=word_l s.data.toList [wFile,wLink,wDir] (headN s.data.toList deep st);rw[hhd]at hw he3 hg3 hg2 hl3 ⊢;rw[must_l,must_l]at hl3;obtain ⟨a,cap,rfl,hcap⟩:=own_slice h.nd;have hllp:=h.ll;have cM1:=hide (rmust_any h wOpen hs);have c1:w.cell? ⟨R,1,none⟩=some (.int .i64 st.pos):=by simp[World.cell?,h.blk]
 have h5z:¬ (5:Int)<deep:=by omega
 have h30z:¬ (st.l.length:Int)=30:=by omega
 have h30b:((st.l.length:Int) == 30)=false:=beq_eq_false_iff_ne.2 h30z;generalize e1:mustN s.data.toList wOpen st=st1 at *;generalize e2:mustN s.data.toList wType st1=st2 at *;generalize e3:wordN s.data.toList [wFile,wLink,wDir] st2=WX at *;obtain ⟨st3,t⟩:=WX;simp only at hw he3 hg3 hl3 ⊢;have E2:=hide e2;have E3:=hide e3;have tbf:=list_ne (show ¬ t=wFile by rw[hw];decide) _ file_list;have tbl:=list_ne (show ¬ t=wLink by rw[hw];decide) _ link_list;have tb:=list_eq hw _ dir_list;have hL3:=congrArg List.length hl3;have hP:st3.l.length+1≤st3.pos:=by omega
 have HD:=hide hD;clear h hw e1 e2 e3 hhd he2 h30 hl3 hL3 hD;go_enter Tryz.func87,Tryz.ntmps87
 go_wp2_with fail
 refine cM1.out.mono ?_;rintro e w1 ⟨⟨r,rfl⟩,hq1⟩;have Q1:=hide hq1;have c4:w1.cell? ⟨R,4,none⟩=some (.slice a st.l.length cap):=by simp[World.cell?,hq1.1.blk]
 have cM2:=hide (rmust_any hq1.1 wType hs);rw[E2.out]at cM2;clear cM1 c1 hq1
 go_wp2_with fail
 refine cM2.out.mono ?_;rintro e w2 ⟨⟨r2,rfl⟩,hq2⟩;have Q2:=hide (Q1.out.trans hq2);have cW:=hide (rword_new hq2.1 [wFile,wLink,wDir] #[.string ⟨#[102,105,108,101]⟩,.string ⟨#[108,105,110,107]⟩,.string ⟨#[100,105,114]⟩] rfl 3 rfl w2.heap.size rfl (by simp) hs);rw[E3.out]at cW;clear cM2 c4 hq2 Q1
 go_wp2_with fail
 refine cW.out.mono ?_;rintro e w3 ⟨rfl,hq3⟩;have Q3:=hide (Q2.out.trans hq3);clear cW hq3 Q2;have O5:=hide Q3.out.1.nd;have c45:w3.cell? ⟨R,4,none⟩=some (.slice a st.l.length cap):=by simp[World.cell?,Q3.out.1.blk]
 have hrow5:=hide (fun e:some R=(Value.slice a st.l.length cap).ownBlock=>Q3.out.1.row e.symm);have hle5:=Q3.out.1.le;have hR5:=Q3.out.1.lt;have hB5:=Q3.out.1.Bw
 go_wp2_with (at_builtin;refine wpList_append_own _ rfl (.tmp 97) (.tmp 100) 25 rfl B 42 i45 (.agg #[.string ⟨#[]⟩,.int .i64 0,.string ⟨#[]⟩]) 3 40 Tryz.underlying25 hi hz0 hz1 hz2 rfl (by decide) (.slice a st.l.length cap) st3.l.length (flat3 st3.l) rfl (O5.out.alloc _) ⟨w3.heap.size,0,none⟩ 1 1 [.string path,.int .i64 4,.string ⟨#[]⟩] rfl rfl (cell_three_at _ _ _ _ _ _ rfl) (fun x hx=>by simp at hx;rcases hx with rfl | rfl | rfl <;> rfl) (by unfold maxLen;omega) (by omega) (by simp;try omega) ?_;intro v6 w6 hown6 hgrow6 hat6;obtain ⟨g6,cap6,rfl,hcap6⟩:=own_form hown6 (by omega);have hR6:=hide ((hgrow6.block R (by simp;try omega) hrow5.out).trans (block_keep (w:=w3) _ Q3.out.1.blk));have c46:w6.cell? ⟨R,4,none⟩=some (.slice a st.l.length cap):=(by simp[World.cell?,hR6.out]);have f46:w6.frozen? ⟨R,4,none⟩=false:=(by simp[World.frozen?,hR6.out]);obtain ⟨hR7,hB7,hK7⟩:=Q3.out.1.push ⟨path,4,⟨#[]⟩⟩ hown6 (((KT.refl [42] w3).alloc _).grown (O5.out.alloc _) hgrow6 (by decide)) (((Below.refl B w3).alloc hB5 _).grown hgrow6 (by simp;try omega) (fun k hk=>(O5.out.lt k hk).1)) hP;have HR7:=hide hR7;have HB7:=hide hB7;have HK7:=hide hK7;clear hown6 hgrow6 hat6 hR7 hB7 hK7 hR6)
 generalize w6.setCell ⟨R,4,none⟩ (.slice (some ⟨g6,0,none⟩) (st3.l.length+1) cap6)=W7 at HR7 HB7 HK7 ⊢;have cC:=hide (HD.out _ _ _ _ _ path deep HR7.out he3 (by show s.size - st3.pos<f;omega) (by show path.size≤st3.pos;omega) (by show deep≤st3.pos;omega));clear c46 f46 c45 HR7
 go_wp2_with fail
 refine cC.out.mono ?_;rintro e w8 ⟨⟨r8,rfl⟩,hq8⟩;go_wp2;go_end0;exact ⟨⟨_,rfl⟩,Q3.out.q ⟨hq8.1,HB7.out.trans hq8.2.1,HK7.out.trans hq8.2.2⟩⟩
theorem rnode_of {s:ByteArray} (hs:s.size≤50000000) {f:Nat} (hD:DirC s f) {B R:Nat} {w:World} {v:Value} {st:Ns} (h:QR B R w s v st) (path:ByteArray) (deep:Nat) (hdp:deep≤100000000)
  (hl:st.e=0→s.size - st.pos<f∧path.size≤st.pos∧deep≤st.pos) :
  Calls Tryz.prog 87 #[.pointer (some ⟨R,0,none⟩),.string path,.int .i64 deep] w fun e w'=>(∃r,e=.returned r)∧QQ B R w s (nodeN s.data.toList f path deep st) w':=by
 unfold nodeN nodeB kindN
 by_cases h1:(wordN s.data.toList [wFile,wLink,wDir] (headN s.data.toList deep st)).2=wFile
 ·rw[if_pos h1];exact rnode_file h hs path deep h1
 ·rw[if_neg h1]
  by_cases h2:(wordN s.data.toList [wFile,wLink,wDir] (headN s.data.toList deep st)).2=wLink
  ·rw[if_pos h2];exact rnode_link h hs path deep h2
  ·rw[if_neg h2]
   by_cases h3:(wordN s.data.toList [wFile,wLink,wDir] (headN s.data.toList deep st)).2=wDir
   ·rw[if_pos h3];have he3:=word_some (may:=[wFile,wLink,wDir]) (st:=headN s.data.toList deep st) (by rw[h3];decide);obtain ⟨a1,a2,a3⟩:=hl (head_grow (word_grow he3).1).1;exact rnode_dir h hs path deep h3 f hD a1 a2 a3
   ·rw[if_neg h3];exact rnode_none h hs path deep hdp h1 h2 h3
def posIn (w:World) (R:Nat):Nat:=match w.cell? ⟨R,1,none⟩ with
 | some (.int _ z)=>z.toNat
 | _=>0
theorem QR.posIn {B R:Nat} {w:World} {s:ByteArray} {v:Value} {st:Ns} (h:QR B R w s v st):posIn w R=st.pos:=by
 have c1:w.cell? ⟨R,1,none⟩=some (.int .i64 st.pos):=by simp[World.cell?,h.blk]
 unfold Go.Proofs.YticfcjmlphhpgaaGreatDoor.posIn;rw[c1];simp
theorem QQ.same {B R:Nat} {w:World} {s:ByteArray} {v:Value} {st:Ns} (h:QR B R w s v st):QQ B R w s st w:=h.same.qq
theorem next_le {S:Bs} {m:Nat} {st:Ns} (h:st.pos≤S.length):(nextN S m st).1.pos≤S.length:=by
 unfold nextN
 split
 ·exact h
 ·split
  ·rw[fail_pos];exact h
  ·rw[fail_pos];exact h
  ·rename_i hc
   have:=(cutF_len hc).2.1;rw[List.length_drop]at this;show st.pos+_≤_;omega
theorem word_le {S:Bs} {may:List ByteArray} {st:Ns} (h:st.pos≤S.length):(wordN S may st).1.pos≤S.length:=by
 unfold wordN
 split
 ·exact next_le h
 ·rw[fail_pos];exact next_le h
theorem entry_e {S:Bs} {last:ByteArray} {st:Ns} (h:(entryN S last st).1.e=0):st.e=0∧st.pos+8+(entryN S last st).2.size≤(entryN S last st).1.pos:=by
 unfold entryN nameN at h ⊢;simp only at h ⊢;obtain ⟨h1,g1⟩:=must_grow h;obtain ⟨h2,_⟩:=failIf_live h1 (by decide);obtain ⟨h3,_⟩:=failIf_live h2 (by decide);obtain ⟨h4,g4⟩:=next_grow h3;obtain ⟨h5,g5⟩:=must_grow h4;obtain ⟨h6,g6⟩:=must_grow h5;rw[(failIf_l _ _ _ _).2,(failIf_l _ _ _ _).2]at g1;exact ⟨h6,by omega⟩
theorem head_mono (S:Bs) (d:Nat) (st:Ns):st.pos≤(headN S d st).pos:=by
 unfold headN;have h1:=must_mono S wOpen st;refine Nat.le_trans ?_ (must_mono S wType _);rw[(failIf_l _ _ _ _).2,(failIf_l _ _ _ _).2];exact h1
theorem data_mono (S:Bs) (path:ByteArray) (k:Int) (st:Ns):st.pos≤(dataN S path k st).pos:=by
 unfold dataN;exact Nat.le_trans (next_mono S 100 st) (must_mono S wClose ((nextN S 100 st).1.push ⟨path,k,(nextN S 100 st).2⟩))
theorem file_mono (S:Bs) (path:ByteArray) (st:Ns):st.pos≤(fileN S path st).pos:=by
 unfold fileN;have h1:=word_mono S [wExec,wData] st
 split
 ·exact Nat.le_trans (Nat.le_trans (Nat.le_trans h1 (must_mono S wNone _)) (must_mono S wData _)) (data_mono _ _ _ _)
 ·exact Nat.le_trans h1 (data_mono _ _ _ _)
theorem link_mono (S:Bs) (path:ByteArray) (st:Ns):st.pos≤(linkN S path st).pos:=by
 unfold linkN leadN;have h1:=must_mono S wTo st;have h2:=next_mono S 100 (mustN S wTo st);refine Nat.le_trans ?_ (must_mono S wClose _);show st.pos≤(Ns.failIf _ _ _ _).pos;rw[(failIf_l _ _ _ _).2];omega
theorem entry_mono (S:Bs) (last:ByteArray) (st:Ns):st.pos≤(entryN S last st).1.pos:=by
 unfold entryN nameN;have h1:=must_mono S wOpen st;have h2:=must_mono S wName (mustN S wOpen st);have h3:=next_mono S 48 (mustN S wName (mustN S wOpen st));refine Nat.le_trans ?_ (must_mono S wNode _);rw[(failIf_l _ _ _ _).2,(failIf_l _ _ _ _).2];omega
theorem nodeB_mono (S:Bs) (D:ByteArray→Nat→Ns→Ns) (hD:∀p d x,x.pos≤(D p d x).pos) (path:ByteArray) (deep:Nat) (st:Ns):st.pos≤(nodeB S D path deep st).pos:=by
 unfold nodeB kindN;have h1:=Nat.le_trans (head_mono S deep st) (word_mono S [wFile,wLink,wDir] (headN S deep st))
 split
 ·exact Nat.le_trans h1 (file_mono _ _ _)
 ·split
  ·exact Nat.le_trans h1 (link_mono _ _ _)
  ·split
   ·exact Nat.le_trans h1 (hD _ _ (Ns.push _ _))
   ·exact h1
theorem dirN_mono (S:Bs):∀(f:Nat) (path:ByteArray) (deep:Nat) (last:ByteArray) (st:Ns),st.pos≤(dirN S f path deep last st).pos
 | 0,_,_,_,_=>Nat.le_refl _
 | f+1,path,deep,last,st=>by
  have h1:=word_mono S [wEntry,wClose] st
  by_cases hw:(wordN S [wEntry,wClose] st).2=wEntry
  ·rw[dirN_entry _ _ _ _ _ _ hw];refine Nat.le_trans ?_ (dirN_mono S f _ _ _ _);refine Nat.le_trans ?_ (must_mono S wClose _);unfold nodeN;refine Nat.le_trans ?_ (nodeB_mono S _ (fun p d x=>dirN_mono S f p d _ x) _ _ _);exact Nat.le_trans h1 (entry_mono _ _ _)
  ·rw[dirN_end _ _ _ _ _ _ hw];exact h1
theorem nodeN_mono (S:Bs) (f:Nat) (path:ByteArray) (deep:Nat) (st:Ns):st.pos≤(nodeN S f path deep st).pos:=nodeB_mono S _ (fun p d x=>dirN_mono S f p d _ x) _ _ _
theorem dir_room {S:Bs} {n g:Nat} {path inner:ByteArray} {deep:Nat} {st9:Ns} (hz:(mustN S wClose (nodeN S g inner (deep+1) st9)).e=0) (HN:st9.e=0→n - st9.pos<g∧inner.size≤st9.pos∧deep+1≤st9.pos) (hp:path.size≤st9.pos) :
  n - (mustN S wClose (nodeN S g inner (deep+1) st9)).pos<g∧path.size≤(mustN S wClose (nodeN S g inner (deep+1) st9)).pos∧deep≤(mustN S wClose (nodeN S g inner (deep+1) st9)).pos:=by
 obtain ⟨h1,h2⟩:=must_grow hz;have h3:=nodeN_mono S g inner (deep+1) st9;have h9:st9.e=0:=by
  by_cases h:st9.e=0
  ·exact h
  ·unfold nodeN at h1;rw[node_dead h]at h1;exact absurd h1 h
 have:=HN h9;omega
theorem dir_less {S:Bs} {n g:Nat} {inner:ByteArray} {deep:Nat} {st2 st9:Ns} (h:st2.pos+8≤st9.pos) (hn:st2.pos+8≤n):n - (mustN S wClose (nodeN S g inner (deep+1) st9)).pos<n - st2.pos:=by
 have h3:=nodeN_mono S g inner (deep+1) st9;have h4:=must_mono S wClose (nodeN S g inner (deep+1) st9);omega
theorem prefixIn_nil (n:ByteArray) (p:ByteArray) (h:p.data.toList=[]):prefixIn p++n=n:=by
 unfold prefixIn;rw[if_pos h];exact ByteArray.empty_append
theorem rdir_of {s:ByteArray} (hs:s.size≤50000000) (f:Nat) (IH:∀g,g<f→DirC s g):DirC s f:=by
 intro B R w v st path deep h he hf hp hd;have hle:=h.le;obtain ⟨T,hT⟩:∃T,dirN s.data.toList f path deep ⟨#[]⟩ st=T:=⟨_,rfl⟩;rw[hT];have HT:=hide hT;have H:=hide h;have HI:=hide IH;clear hT h IH;go_enter Tryz.func116,Tryz.ntmps116;go_wp2
 go_loopw [6,7,8,9] (fun l _ _ _ w2=>∃(last:ByteArray) (g:Nat) (st2:Ns) (v2:Value),l=.string last∧Hid (g≤f∧(st2.e=0→s.size - st2.pos<g∧path.size≤st2.pos∧deep≤st2.pos))∧Hid (QR B R w2 s v2 st2)∧Hid (QQ B R w s st2 w2)∧Hid (dirN s.data.toList g path deep last st2=T)) (fun _ _ _ _ w2=>s.size - posIn w2 R)
 case atStart=>exact ⟨⟨#[]⟩,f,st,v,rfl,hide ⟨Nat.le_refl _,fun _=>⟨hf,hp,hd⟩⟩,H,hide (QQ.same H.out),HT⟩
 case round=>
  obtain ⟨last,g,st2,v2,rfl,HG,H2,HQ,HT2⟩:=hrel;have hG:=HG.out;have hQ2le:=H2.out.le;have cW:=hide (rword_new H2.out [wEntry,wClose] #[.string ⟨#[101,110,116,114,121]⟩,.string ⟨#[41]⟩] rfl 2 rfl wr.heap.size rfl (by simp) hs)
  by_cases hw:(wordN s.data.toList [wEntry,wClose] st2).2=wEntry
  ·have he3:=word_some (may:=[wEntry,wClose]) (st:=st2) (by rw[hw];decide);obtain ⟨he2,hg3⟩:=word_grow he3;obtain ⟨hG1,hG2,hG3⟩:=hG.2 he2;have hle3:=word_le (may:=[wEntry,wClose]) (st:=st2) (S:=s.data.toList) (by simpa using hQ2le);have hsl:s.data.toList.length=s.size:=by simp
   rw[hsl]at hle3;obtain ⟨g,rfl⟩:∃k,g=k+1:=⟨g - 1,by omega⟩;have hT3:=HT2.out;rw[dirN_entry _ _ _ _ _ _ hw]at hT3;have hE:=@entry_e s.data.toList last (wordN s.data.toList [wEntry,wClose] st2).1;generalize e3:wordN s.data.toList [wEntry,wClose] st2=WX at *;obtain ⟨st3,t⟩:=WX;simp only at hw he3 hg3 hT3 hE hle3;have tb:=list_eq hw _ entry_list;unfold entryN nameN at hT3 hE;have hm4:=must_mono s.data.toList wOpen st3;generalize e4:mustN s.data.toList wOpen st3=st4 at *;have hm5:=must_mono s.data.toList wName st4;generalize e5:mustN s.data.toList wName st4=st5 at *;have hm6:=next_mono s.data.toList 48 st5;have hd6:=next_size s.data.toList 48 st5;generalize e6:nextN s.data.toList 48 st5=NX at *;obtain ⟨st6,d⟩:=NX;simp only at hm6 hd6 hT3 hE;generalize eN:isNameB d.data.toList=bN at *;generalize e7:st6.failIf (!bN) 6 st5.pos=st7 at *;generalize eA:notAbove d last=bA at *;generalize e8:st7.failIf bA 7 st5.pos=st8 at *;have hm9:=must_mono s.data.toList wNode st8;generalize e9:mustN s.data.toList wNode st8=st9 at *;have hp7:st7.pos=st6.pos:=by rw[← e7];exact (failIf_l _ _ _ _).2
   have hp8:st8.pos=st7.pos:=by rw[← e8];exact (failIf_l _ _ _ _).2
   have hN9:st9.e=0→s.size - st9.pos<g∧(prefixIn path++d).size≤st9.pos∧deep+1≤st9.pos:=fun h9=>by
    have:=(hE h9).2;have hps:(prefixIn path).size≤path.size+1:=by
     unfold prefixIn
     split
     ·exact Nat.zero_le _
     ·rw[ByteArray.size_append];exact Nat.le_refl _
    rw[ByteArray.size_append];omega
   have hm29:st2.pos+8≤st9.pos:=by omega
   have hs23:st2.pos+8≤s.size:=by omega
   have hp3:path.size≤st9.pos:=by omega
   have HT3:=hide hT3;have HN9:=hide hN9;have E4:=hide e4;have E5:=hide e5;have E6:=hide e6;have E7:=hide e7;have E8:=hide e8;have E9:=hide e9;have HIg:=hide (HI.out g (by omega));have hgf:=hG.1;clear hG hE hT3 hN9 e3 e4 e5 e6 e7 e8 e9 HT2 HT HG hw hp7 hp8 hsl HI
   go_wp2_with fail
   refine cW.out.mono ?_;rintro e w3 ⟨rfl,hq3⟩;have Q3:=hide hq3;have c4':=hide (rmust_any hq3.1 wOpen hs);rw[E4.out]at c4';clear cW hq3
   go_wp2_with fail
   refine c4'.out.mono ?_;rintro e w4 ⟨⟨r4,rfl⟩,hq4⟩;have Q4:=hide (Q3.out.trans hq4);have c5':=hide (rmust_any hq4.1 wName hs);rw[E5.out]at c5';clear c4' hq4 Q3
   go_wp2_with fail
   refine c5'.out.mono ?_;rintro e w5 ⟨⟨r5,rfl⟩,hq5⟩;have Q5:=hide (Q4.out.trans hq5);have c6':=hide (rnext_any hq5.1 48 (by omega) hs);rw[E6.out]at c6';have cpos:w5.cell? ⟨R,1,none⟩=some (.int .i64 st5.pos):=by simp[World.cell?,hq5.1.blk]
   clear c5' hq5 Q4
   go_wp2_with fail
   refine c6'.out.mono ?_;rintro e w6 ⟨rfl,hq6⟩;have Q6:=hide (Q5.out.trans hq6);have cNm:=hide (Name_any d w6 (by omega));rw[eN]at cNm;clear c6' hq6 Q5 cpos
   go_wp2_with fail
   refine cNm.out.mono ?_;rintro e w6b ⟨rfl,rfl⟩;clear cNm;unfold notAbove at eA;cases bN
   ·cases bA
    ·have E7':st6.fail 6 st5.pos=st7:=E7.out;have cF:=hide (rfail_any Q6.out.1 6 st5.pos);rw[E7']at cF
     go_wp2_with fail
     refine cF.out.mono ?_;rintro e w7 ⟨⟨r7,rfl⟩,hq7⟩;have Q7:=hide (Q6.out.trans hq7);clear cF hq7 Q6 E7 E7';have E8':st7=st8:=E8.out;have Q8:=Q7;rw[E8']at Q8;clear Q7 E8 E8';have cM:=hide (rmust_any Q8.out.1 wNode hs);rw[E9.out]at cM
     go_wp2_with fail
     refine cM.out.mono ?_;rintro e w9 ⟨⟨r9,rfl⟩,hq9⟩;have Q9:=hide (Q8.out.trans hq9);clear cM hq9 Q8
     by_cases hpe:path.data.toList=[]
     ·have hpb:path.toList.isEmpty=true:=by rw[ByteArray.toList_eq,hpe];rfl
      have hpd:prefixIn path++d=d:=prefixIn_nil d path hpe;have HN:=HN9.out;have HT4:=HT3.out;rw[hpd]at HN HT4;have cK:=hide (rnode_of hs HIg.out Q9.out.1 d (deep+1) (by omega) HN);rw[show ((deep+1:Nat):Int)=(deep:Int)+1 by omega]at cK;have HT5:=hide HT4;have HN5:=hide HN;clear HN HT4 HT3 HN9 hpd hpe
      go_wp2_with fail
      refine cK.out.mono ?_;rintro e wK ⟨⟨rK,rfl⟩,hqK⟩;have QK:=hide (Q9.out.q hqK);obtain ⟨vK,hvK⟩:=hqK.1;have cC:=hide (rmust_any hvK wClose hs);clear cK hqK hvK Q9
      go_wp2_with fail
      refine cC.out.mono ?_;rintro e wC ⟨⟨rC,rfl⟩,hqC⟩;go_wp2;go_roundw
      case rel=>exact ⟨d,g,_,vK,rfl,hide ⟨by omega,fun hz=>dir_room hz HN5.out hp3⟩,hide hqC.1,hide (HQ.out.trans (QK.out.trans hqC.qq)),HT5⟩
      case measure=>
       rw[hqC.1.posIn,H2.out.posIn];exact dir_less hm29 hs23
     ·have hpb:path.toList.isEmpty=false:=by rw[ByteArray.toList_eq];cases hh:path.data.toList with | nil=>exact absurd hh hpe | cons a t=>rfl
      have hpd:prefixIn path=path++⟨#[47]⟩:=by simp only[prefixIn,if_neg hpe]
      have HN:=HN9.out;have HT4:=HT3.out;rw[hpd]at HN HT4;have cK:=hide (rnode_of hs HIg.out Q9.out.1 (path++⟨#[47]⟩++d) (deep+1) (by omega) HN);rw[show ((deep+1:Nat):Int)=(deep:Int)+1 by omega]at cK;have HT5:=hide HT4;have HN5:=hide HN;clear HN HT4 HT3 HN9 hpd hpe
      go_wp2_with fail
      refine cK.out.mono ?_;rintro e wK ⟨⟨rK,rfl⟩,hqK⟩;have QK:=hide (Q9.out.q hqK);obtain ⟨vK,hvK⟩:=hqK.1;have cC:=hide (rmust_any hvK wClose hs);clear cK hqK hvK Q9
      go_wp2_with fail
      refine cC.out.mono ?_;rintro e wC ⟨⟨rC,rfl⟩,hqC⟩;go_wp2;go_roundw
      case rel=>exact ⟨d,g,_,vK,rfl,hide ⟨by omega,fun hz=>dir_room hz HN5.out hp3⟩,hide hqC.1,hide (HQ.out.trans (QK.out.trans hqC.qq)),HT5⟩
      case measure=>
       rw[hqC.1.posIn,H2.out.posIn];exact dir_less hm29 hs23
    ·have E7':st6.fail 6 st5.pos=st7:=E7.out;have cF:=hide (rfail_any Q6.out.1 6 st5.pos);rw[E7']at cF
     go_wp2_with fail
     refine cF.out.mono ?_;rintro e w7 ⟨⟨r7,rfl⟩,hq7⟩;have Q7:=hide (Q6.out.trans hq7);clear cF hq7 Q6 E7 E7';have E8':st7.fail 7 st5.pos=st8:=E8.out;have cG:=hide (rfail_any Q7.out.1 7 st5.pos);rw[E8']at cG
     go_wp2_with fail
     refine cG.out.mono ?_;rintro e w8 ⟨⟨r8,rfl⟩,hq8⟩;have Q8:=hide (Q7.out.trans hq8);clear cG hq8 Q7 E8 E8';have cM:=hide (rmust_any Q8.out.1 wNode hs);rw[E9.out]at cM
     go_wp2_with fail
     refine cM.out.mono ?_;rintro e w9 ⟨⟨r9,rfl⟩,hq9⟩;have Q9:=hide (Q8.out.trans hq9);clear cM hq9 Q8
     by_cases hpe:path.data.toList=[]
     ·have hpb:path.toList.isEmpty=true:=by rw[ByteArray.toList_eq,hpe];rfl
      have hpd:prefixIn path++d=d:=prefixIn_nil d path hpe;have HN:=HN9.out;have HT4:=HT3.out;rw[hpd]at HN HT4;have cK:=hide (rnode_of hs HIg.out Q9.out.1 d (deep+1) (by omega) HN);rw[show ((deep+1:Nat):Int)=(deep:Int)+1 by omega]at cK;have HT5:=hide HT4;have HN5:=hide HN;clear HN HT4 HT3 HN9 hpd hpe
      go_wp2_with fail
      refine cK.out.mono ?_;rintro e wK ⟨⟨rK,rfl⟩,hqK⟩;have QK:=hide (Q9.out.q hqK);obtain ⟨vK,hvK⟩:=hqK.1;have cC:=hide (rmust_any hvK wClose hs);clear cK hqK hvK Q9
      go_wp2_with fail
      refine cC.out.mono ?_;rintro e wC ⟨⟨rC,rfl⟩,hqC⟩;go_wp2;go_roundw
      case rel=>exact ⟨d,g,_,vK,rfl,hide ⟨by omega,fun hz=>dir_room hz HN5.out hp3⟩,hide hqC.1,hide (HQ.out.trans (QK.out.trans hqC.qq)),HT5⟩
      case measure=>
       rw[hqC.1.posIn,H2.out.posIn];exact dir_less hm29 hs23
     ·have hpb:path.toList.isEmpty=false:=by rw[ByteArray.toList_eq];cases hh:path.data.toList with | nil=>exact absurd hh hpe | cons a t=>rfl
      have hpd:prefixIn path=path++⟨#[47]⟩:=by simp only[prefixIn,if_neg hpe]
      have HN:=HN9.out;have HT4:=HT3.out;rw[hpd]at HN HT4;have cK:=hide (rnode_of hs HIg.out Q9.out.1 (path++⟨#[47]⟩++d) (deep+1) (by omega) HN);rw[show ((deep+1:Nat):Int)=(deep:Int)+1 by omega]at cK;have HT5:=hide HT4;have HN5:=hide HN;clear HN HT4 HT3 HN9 hpd hpe
      go_wp2_with fail
      refine cK.out.mono ?_;rintro e wK ⟨⟨rK,rfl⟩,hqK⟩;have QK:=hide (Q9.out.q hqK);obtain ⟨vK,hvK⟩:=hqK.1;have cC:=hide (rmust_any hvK wClose hs);clear cK hqK hvK Q9
      go_wp2_with fail
      refine cC.out.mono ?_;rintro e wC ⟨⟨rC,rfl⟩,hqC⟩;go_wp2;go_roundw
      case rel=>exact ⟨d,g,_,vK,rfl,hide ⟨by omega,fun hz=>dir_room hz HN5.out hp3⟩,hide hqC.1,hide (HQ.out.trans (QK.out.trans hqC.qq)),HT5⟩
      case measure=>
       rw[hqC.1.posIn,H2.out.posIn];exact dir_less hm29 hs23
   ·cases bA
    ·have E7':st6=st7:=E7.out;have Q7:=Q6;rw[E7']at Q7;clear Q6 E7 E7';have E8':st7=st8:=E8.out;have Q8:=Q7;rw[E8']at Q8;clear Q7 E8 E8';have cM:=hide (rmust_any Q8.out.1 wNode hs);rw[E9.out]at cM
     go_wp2_with fail
     refine cM.out.mono ?_;rintro e w9 ⟨⟨r9,rfl⟩,hq9⟩;have Q9:=hide (Q8.out.trans hq9);clear cM hq9 Q8
     by_cases hpe:path.data.toList=[]
     ·have hpb:path.toList.isEmpty=true:=by rw[ByteArray.toList_eq,hpe];rfl
      have hpd:prefixIn path++d=d:=prefixIn_nil d path hpe;have HN:=HN9.out;have HT4:=HT3.out;rw[hpd]at HN HT4;have cK:=hide (rnode_of hs HIg.out Q9.out.1 d (deep+1) (by omega) HN);rw[show ((deep+1:Nat):Int)=(deep:Int)+1 by omega]at cK;have HT5:=hide HT4;have HN5:=hide HN;clear HN HT4 HT3 HN9 hpd hpe
      go_wp2_with fail
      refine cK.out.mono ?_;rintro e wK ⟨⟨rK,rfl⟩,hqK⟩;have QK:=hide (Q9.out.q hqK);obtain ⟨vK,hvK⟩:=hqK.1;have cC:=hide (rmust_any hvK wClose hs);clear cK hqK hvK Q9
      go_wp2_with fail
      refine cC.out.mono ?_;rintro e wC ⟨⟨rC,rfl⟩,hqC⟩;go_wp2;go_roundw
      case rel=>exact ⟨d,g,_,vK,rfl,hide ⟨by omega,fun hz=>dir_room hz HN5.out hp3⟩,hide hqC.1,hide (HQ.out.trans (QK.out.trans hqC.qq)),HT5⟩
      case measure=>
       rw[hqC.1.posIn,H2.out.posIn];exact dir_less hm29 hs23
     ·have hpb:path.toList.isEmpty=false:=by rw[ByteArray.toList_eq];cases hh:path.data.toList with | nil=>exact absurd hh hpe | cons a t=>rfl
      have hpd:prefixIn path=path++⟨#[47]⟩:=by simp only[prefixIn,if_neg hpe]
      have HN:=HN9.out;have HT4:=HT3.out;rw[hpd]at HN HT4;have cK:=hide (rnode_of hs HIg.out Q9.out.1 (path++⟨#[47]⟩++d) (deep+1) (by omega) HN);rw[show ((deep+1:Nat):Int)=(deep:Int)+1 by omega]at cK;have HT5:=hide HT4;have HN5:=hide HN;clear HN HT4 HT3 HN9 hpd hpe
      go_wp2_with fail
      refine cK.out.mono ?_;rintro e wK ⟨⟨rK,rfl⟩,hqK⟩;have QK:=hide (Q9.out.q hqK);obtain ⟨vK,hvK⟩:=hqK.1;have cC:=hide (rmust_any hvK wClose hs);clear cK hqK hvK Q9
      go_wp2_with fail
      refine cC.out.mono ?_;rintro e wC ⟨⟨rC,rfl⟩,hqC⟩;go_wp2;go_roundw
      case rel=>exact ⟨d,g,_,vK,rfl,hide ⟨by omega,fun hz=>dir_room hz HN5.out hp3⟩,hide hqC.1,hide (HQ.out.trans (QK.out.trans hqC.qq)),HT5⟩
      case measure=>
       rw[hqC.1.posIn,H2.out.posIn];exact dir_less hm29 hs23
    ·have E7':st6=st7:=E7.out;have Q7:=Q6;rw[E7']at Q7;clear Q6 E7 E7';have E8':st7.fail 7 st5.pos=st8:=E8.out;have cG:=hide (rfail_any Q7.out.1 7 st5.pos);rw[E8']at cG
     go_wp2_with fail
     refine cG.out.mono ?_;rintro e w8 ⟨⟨r8,rfl⟩,hq8⟩;have Q8:=hide (Q7.out.trans hq8);clear cG hq8 Q7 E8 E8';have cM:=hide (rmust_any Q8.out.1 wNode hs);rw[E9.out]at cM
     go_wp2_with fail
     refine cM.out.mono ?_;rintro e w9 ⟨⟨r9,rfl⟩,hq9⟩;have Q9:=hide (Q8.out.trans hq9);clear cM hq9 Q8
     by_cases hpe:path.data.toList=[]
     ·have hpb:path.toList.isEmpty=true:=by rw[ByteArray.toList_eq,hpe];rfl
      have hpd:prefixIn path++d=d:=prefixIn_nil d path hpe;have HN:=HN9.out;have HT4:=HT3.out;rw[hpd]at HN HT4;have cK:=hide (rnode_of hs HIg.out Q9.out.1 d (deep+1) (by omega) HN);rw[show ((deep+1:Nat):Int)=(deep:Int)+1 by omega]at cK;have HT5:=hide HT4;have HN5:=hide HN;clear HN HT4 HT3 HN9 hpd hpe
      go_wp2_with fail
      refine cK.out.mono ?_;rintro e wK ⟨⟨rK,rfl⟩,hqK⟩;have QK:=hide (Q9.out.q hqK);obtain ⟨vK,hvK⟩:=hqK.1;have cC:=hide (rmust_any hvK wClose hs);clear cK hqK hvK Q9
      go_wp2_with fail
      refine cC.out.mono ?_;rintro e wC ⟨⟨rC,rfl⟩,hqC⟩;go_wp2;go_roundw
      case rel=>exact ⟨d,g,_,vK,rfl,hide ⟨by omega,fun hz=>dir_room hz HN5.out hp3⟩,hide hqC.1,hide (HQ.out.trans (QK.out.trans hqC.qq)),HT5⟩
      case measure=>
       rw[hqC.1.posIn,H2.out.posIn];exact dir_less hm29 hs23
     ·have hpb:path.toList.isEmpty=false:=by rw[ByteArray.toList_eq];cases hh:path.data.toList with | nil=>exact absurd hh hpe | cons a t=>rfl
      have hpd:prefixIn path=path++⟨#[47]⟩:=by simp only[prefixIn,if_neg hpe]
      have HN:=HN9.out;have HT4:=HT3.out;rw[hpd]at HN HT4;have cK:=hide (rnode_of hs HIg.out Q9.out.1 (path++⟨#[47]⟩++d) (deep+1) (by omega) HN);rw[show ((deep+1:Nat):Int)=(deep:Int)+1 by omega]at cK;have HT5:=hide HT4;have HN5:=hide HN;clear HN HT4 HT3 HN9 hpd hpe
      go_wp2_with fail
      refine cK.out.mono ?_;rintro e wK ⟨⟨rK,rfl⟩,hqK⟩;have QK:=hide (Q9.out.q hqK);obtain ⟨vK,hvK⟩:=hqK.1;have cC:=hide (rmust_any hvK wClose hs);clear cK hqK hvK Q9
      go_wp2_with fail
      refine cC.out.mono ?_;rintro e wC ⟨⟨rC,rfl⟩,hqC⟩;go_wp2;go_roundw
      case rel=>exact ⟨d,g,_,vK,rfl,hide ⟨by omega,fun hz=>dir_room hz HN5.out hp3⟩,hide hqC.1,hide (HQ.out.trans (QK.out.trans hqC.qq)),HT5⟩
      case measure=>
       rw[hqC.1.posIn,H2.out.posIn];exact dir_less hm29 hs23
  ·have hT3:(wordN s.data.toList [wEntry,wClose] st2).1=T:=by
    cases g with
    | zero=>
     have h0:st2.e≠0:=fun e=>by have:=(hG.2 e).1;omega
     rw[word_dead h0];exact HT2.out
    | succ g=>rw[← dirN_end _ _ _ _ _ _ hw];exact HT2.out
   generalize e3:wordN s.data.toList [wEntry,wClose] st2=WX at *;obtain ⟨st3,t⟩:=WX;simp only at hw hT3;subst hT3;have tb:=list_ne hw _ entry_list;clear hw HT HT2 e3
   go_wp2_with fail
   refine cW.out.mono ?_;rintro e w3 ⟨rfl,hq3⟩;go_wp2;go_end0;exact ⟨⟨_,rfl⟩,HQ.out.trans hq3.qq⟩
theorem rdir_any {s:ByteArray} (hs:s.size≤50000000):∀(N f:Nat),f≤N→DirC s f
 | 0,f,h=>rdir_of hs f (fun g hg=>by omega)
 | N+1,f,h=>rdir_of hs f (fun g hg=>rdir_any hs N g (by omega))
def treeAt (S:Bs) (st:Ns):Ns:=nodeN S (S.length+1) ⟨#[]⟩ 0 (mustN S wNar ⟨st.pos,st.e,st.bad,[]⟩)
theorem rtree_any {B R:Nat} {w:World} {s:ByteArray} {v:Value} {st:Ns} (h:QR B R w s v st) (hs:s.size≤50000000) :
  Calls Tryz.prog 58 #[.pointer (some ⟨R,0,none⟩)] w fun e w'=>(∃r,e=.returned r)∧QQ w.heap.size R w s (treeAt s.data.toList st) w':=by
 have c4:w.cell? ⟨R,4,none⟩=some v:=by simp[World.cell?,h.blk]
 have f4:w.frozen? ⟨R,4,none⟩=false:=by simp[World.frozen?,h.blk]
 have h1:QP w.heap.size R w s (.slice none 0 0) ⟨st.pos,st.e,st.bad,[]⟩ (w.setCell ⟨R,4,none⟩ (.slice none 0 0)):=
  ⟨⟨block_set h.blk 4 _,by rw[size_set];exact Nat.le_refl _,World.ownsRow_nil _ _ _ _,h.le,Nat.zero_le _⟩,(BX.refl _ R w).set _ _,(KT.refl [92] w).set h.blk (by decide) _ _⟩
 have H1:=hide h1;have cM:=hide (rmust_any h1.1 wNar hs);have hsl:s.data.toList.length=s.size:=by simp
 unfold treeAt;rw[hsl];generalize mustN s.data.toList wNar ⟨st.pos,st.e,st.bad,[]⟩=st1 at *;clear h h1 hsl;go_enter Tryz.func58,Tryz.ntmps58
 go_wp2_with fail
 refine cM.out.mono ?_;rintro e w1 ⟨⟨r1,rfl⟩,hq1⟩;have cN:=hide (rnode_of hs (rdir_any hs _ _ (Nat.le_refl (s.size+1))) hq1.1 ⟨#[]⟩ 0 (by omega) (fun _=>⟨by omega,Nat.zero_le _,Nat.zero_le _⟩));have Q1:=hide (H1.out.trans hq1);clear cM hq1 H1
 go_wp2_with fail
 refine cN.out.mono ?_;rintro e w2 ⟨⟨r2,rfl⟩,hq2⟩;go_wp2;go_end0;exact ⟨⟨_,rfl⟩,Q1.out.q hq2⟩
theorem sim_tree {S:Bs} {st:Ns} (he:st.e=0) (hle:st.pos≤S.length):Sim S (QN []) (run [.word wNar,.bracket] ⟨S.drop st.pos,st.pos,g0⟩) (treeAt S st):=by
 have hA:At S ⟨st.pos,st.e,st.bad,[]⟩ ⟨S.drop st.pos,st.pos,g0⟩:=⟨he,rfl,rfl,hle⟩;refine sim_word (G:=nodeN S (S.length+1) ⟨#[]⟩ 0) hA (fun e p st' hd=>?_) (fun y st' hA' hg hl hlen=>?_)
 ·unfold nodeN;rw[node_dead hd.ne];exact hd
 ·refine sim_node (sim_dir S (S.length+1)) [] [] ⟨#[]⟩ hA' hg hl (by simp) ?_;have:(S.drop st.pos).length≤S.length:=by rw[List.length_drop];omega
  simp only at hlen;omega
theorem treeAt_dead {S:Bs} {st:Ns} (h:st.e≠0):(treeAt S st).e=st.e∧(treeAt S st).bad=st.bad:=by
 have h':(⟨st.pos,st.e,st.bad,[]⟩:Ns).e≠0:=h;unfold treeAt;rw[must_dead h'];unfold nodeN;rw[node_dead h'];exact ⟨rfl,rfl⟩
theorem treeAt_tree {S:Bs} {st:Ns} (hle:st.pos≤S.length) (h:(treeAt S st).e=0):st.e=0∧firstW (treeAt S st).l=none:=by
 have he:st.e=0:=by
  by_cases e:st.e=0
  ·exact e
  ·rw[(treeAt_dead (S:=S) e).1]at h;exact h
 refine ⟨he,?_⟩;have hs:=sim_tree (S:=S) he hle;cases hr:run [.word wNar,.bracket] ⟨S.drop st.pos,st.pos,g0⟩ with
 | no e p=>
  rw[hr]at hs;exact absurd h hs.ne
 | yes y=>
  rw[hr]at hs;rw[hs.2.2.1];exact (run_tree rfl hr).2.2
def lowR (refs:List ByteArray) (x:ByteArray):Bool:=decide (0<refs.length) && notAbove x (lastS refs)
def refsN (S:Bs) (A:List Ent) (p:ByteArray):Nat→List ByteArray→Ns→Ns × List ByteArray
 | 0,refs,st=>(st,refs)
 | f+1,refs,st=>
  if (wordN S [wRef,wSum] st).2=wRef then
   refsN S A p f (refs++[(nextN S 12 (wordN S [wRef,wSum] st).1).2]) (((nextN S 12 (wordN S [wRef,wSum] st).1).1.failIf (lowR refs (nextN S 12 (wordN S [wRef,wSum] st).1).2) 7 (wordN S [wRef,wSum] st).1.pos).failIf (lackS A p (nextN S 12 (wordN S [wRef,wSum] st).1).2) 13 (wordN S [wRef,wSum] st).1.pos)
  else ((wordN S [wRef,wSum] st).1,refs)
def rstep (S:Bs) (A:List Ent) (p:ByteArray) (f:Nat) (refs:List ByteArray) (q:Nat) (x:Ns × ByteArray):Ns × List ByteArray:=refsN S A p f (refs++[x.2]) ((x.1.failIf (lowR refs x.2) 7 q).failIf (lackS A p x.2) 13 q)
theorem refsN_zero (S:Bs) (A:List Ent) (p:ByteArray) (refs:List ByteArray) (st:Ns):refsN S A p 0 refs st=(st,refs):=rfl
theorem refsN_succ (S:Bs) (A:List Ent) (p:ByteArray) (f:Nat) (refs:List ByteArray) (st:Ns):refsN S A p (f+1) refs st=if (wordN S [wRef,wSum] st).2=wRef then rstep S A p f refs (wordN S [wRef,wSum] st).1.pos (nextN S 12 (wordN S [wRef,wSum] st).1) else ((wordN S [wRef,wSum] st).1,refs):=rfl
attribute [irreducible] refsN treeAt
structure Dm where
 st:Ns
 l:List Ent
 came:List ByteArray
 fresh:List ByteArray
def headI (S:Bs) (came:List ByteArray) (st:Ns):Ns × ByteArray:=
 (mustN S wRefs (treeAt S (((nextN S 12 st).1.failIf (!isPathB (nextN S 12 st).2.data.toList) 11 st.pos).failIf (inL came (nextN S 12 st).2) 7 st.pos)),(nextN S 12 st).2)
def keepN (d:Dm) (st:Ns) (p sum:ByteArray) (refs:List ByteArray) (q:Nat):Dm:=
 ⟨((st.failIf (!decide (sum=sumO (packB st.l))) 16 q).failIf (decide ((putS d.l ⟨p,st.l,refs⟩).1=12)) 12 q).failIf (decide ((putS d.l ⟨p,st.l,refs⟩).1=14)) 14 q,
  if (findS d.l p).isNone=true then insS ⟨p,st.l,refs⟩ d.l else d.l,d.came++[p],if (findS d.l p).isNone=true then d.fresh++[p] else d.fresh⟩
def entN (S:Bs) (d:Dm) (st:Ns):Dm ⊕ Ns:=
 let a:=headI S d.came st
 let b:=refsN S d.l a.2 (S.length+1) [] a.1
 let c:=nextN S 8 b.1
 if c.1.e=0 then .inl (keepN d c.1 a.2 c.2 b.2 b.1.pos) else .inr c.1
attribute [irreducible] entN
def impN (S:Bs):Nat→Dm→Dm
 | 0,d=>d
 | f+1,d=>
  if (wordN S [wPath,wEnd] d.st).2=wPath then
   match entN S d (wordN S [wPath,wEnd] d.st).1 with
   | .inl d'=>impN S f d'
   | .inr st=>{d with st:=st}
  else {d with st:=(wordN S [wPath,wEnd] d.st).1}
theorem impN_zero (S:Bs) (d:Dm):impN S 0 d=d:=rfl
theorem impN_succ (S:Bs) (f:Nat) (d:Dm):impN S (f+1) d=if (wordN S [wPath,wEnd] d.st).2=wPath then (match entN S d (wordN S [wPath,wEnd] d.st).1 with | .inl d'=>impN S f d' | .inr st=>{d with st:=st}) else {d with st:=(wordN S [wPath,wEnd] d.st).1}:=rfl
attribute [irreducible] impN
def importN (A:List Ent) (S:Bs):(List ByteArray × Int × Nat) × List Ent:=
 let d:=impN S (S.length+1) ⟨mustN S wExp ⟨0,0,0,[]⟩,A,[],[]⟩
 let st:=d.st.failIf (decide (d.st.pos<S.length)) 10 d.st.pos
 if st.e=0 then ((d.fresh,0,0),d.l) else (([],st.e,st.bad),A)
def markB (k:Nat):ByteArray:=⟨#[109,105,110,101]⟩++⟨[UInt8.ofNat (k % 256),UInt8.ofNat (k / 256 % 256),UInt8.ofNat (k / 65536)].toArray⟩
theorem u8_of {n:Nat} (h:n<256):((UInt8.ofNat n).toNat:Int)=n:=by
 have:(UInt8.ofNat n).toNat=n:=by simp;omega
 rw[this]
theorem conv_three (w:World) (a b c:UInt8) :
  (convert 95 9 (.slice (some ⟨w.heap.size,0,none⟩) 3 3)).run Tryz.prog (w.alloc (.cells #[.int .u8 (a.toNat:Int),.int .u8 (b.toNat:Int),.int .u8 (c.toNat:Int)] 5))=.ok (.string ⟨[a,b,c].toArray⟩) (w.alloc (.cells #[.int .u8 (a.toNat:Int),.int .u8 (b.toNat:Int),.int .u8 (c.toNat:Int)] 5)):=by
 refine run_convert_bytes_back (P:=Tryz.prog) _ 95 9 5 ⟨w.heap.size,0,none⟩ 3 [a,b,c] Tryz.underlying95 Tryz.underlying5 Tryz.underlying9 (fun j hj=>?_);have hk:=block_new w (.cells #[.int .u8 (a.toNat:Int),.int .u8 (b.toNat:Int),.int .u8 (c.toNat:Int)] 5);have hadd:(⟨w.heap.size,0,none⟩:Addr).add j=⟨w.heap.size,j,none⟩:=by unfold Addr.add;split <;> simp_all
 rw[hadd];simp only[World.cell?,hk]
 match j,hj with
 | 0,_=>rfl
 | 1,_=>rfl
 | 2,_=>rfl
theorem mark_any (k:Nat) (hk:k≤1000000) (w:World):Calls Tryz.prog 34 #[.int .i64 k] w fun e w'=>e=.returned (.string (markB k))∧Below w.heap.size w w':=by
 have hc:=conv_three w (UInt8.ofNat (k % 256)) (UInt8.ofNat (k / 256 % 256)) (UInt8.ofNat (k / 65536));rw[u8_of (by omega),u8_of (by omega),u8_of (by omega)]at hc;have e1:((k % 256:Nat):Int)=(k:Int) % 256:=by omega
 have e2:((k / 256 % 256:Nat):Int)=(k:Int) / 256 % 256:=by omega
 have e3:((k / 65536:Nat):Int)=(k:Int) / 65536:=by omega
 rw[e1,e2,e3]at hc;clear e1 e2 e3;unfold markB;have hsz:[UInt8.ofNat (k % 256),UInt8.ofNat (k / 256 % 256),UInt8.ofNat (k / 65536)].toArray.size=3:=rfl;generalize [UInt8.ofNat (k % 256),UInt8.ofNat (k / 256 % 256),UInt8.ofNat (k / 65536)].toArray=z at hc hsz ⊢;go_enter Tryz.func34,Tryz.ntmps34;go_wp2;go_ret;exact ⟨rfl,(Below.refl _ w).alloc (Nat.le_refl _) _⟩
theorem pick_neg {c:Int} {n:Nat} (hn:0<n) (hc:c<0):-(c+1).tmod (n:Int)=(((-(c+1)) % (n:Int)).toNat:Int)∧((-(c+1)) % (n:Int)).toNat<n:=by
 have h0:(0:Int)≤-(c+1):=by omega
 have hn':(0:Int)<n:=by omega
 have h1:=Int.emod_nonneg (-(c+1)) (by omega:(n:Int)≠0);have h2:=Int.emod_lt_of_pos (-(c+1)) hn'
 constructor
 ·rw[Int.toNat_of_nonneg h1,← Int.tmod_eq_emod_of_nonneg h0,Int.neg_tmod]
 ·omega
theorem stage_any (k:Int) (w:World):Calls Tryz.prog 14 #[.int .i64 k] w fun e w'=>e=.returned (.int .i64 (if k≤5 then 3 else 4))∧w'=w:=by
 by_cases h:k≤5
 ·rw[if_pos h];go_enter Tryz.func14,Tryz.ntmps14;go_wp2;go_ret;exact ⟨rfl,rfl⟩
 ·rw[if_neg h];go_enter Tryz.func14,Tryz.ntmps14;go_wp2;go_ret;exact ⟨rfl,rfl⟩
end Go.Proofs.YticfcjmlphhpgaaGreatDoor
namespace Go.Proofs.YticfcjmlphhpgaaGreatDoor
open Go.RowKit Go.Maps
structure KO (X:Nat→Prop) (w w':World):Prop where
 os:w'.os=w.os
 tape:w'.tape=w.tape
 output:w'.output=w.output
 size:w.heap.size≤w'.heap.size
 blk:∀k,k<w.heap.size→¬ X k→w'.heap[k]?=w.heap[k]?
theorem KO.trans {X:Nat→Prop} {w w1 w2:World} (h:KO X w w1) (k:KO X w1 w2):KO X w w2:=
 ⟨k.os.trans h.os,k.tape.trans h.tape,k.output.trans h.output,Nat.le_trans h.size k.size,fun i hi hx=>(k.blk i (Nat.lt_of_lt_of_le hi h.size) hx).trans (h.blk i hi hx)⟩
theorem KO.of {X:Nat→Prop} {w w':World} (h:Below w.heap.size w w'):KO X w w':=⟨h.os,h.tape,h.output,h.size,fun k hk _=>h.block k hk⟩
theorem KO.below {X:Nat→Prop} {w w':World} {B:Nat} (h:KO X w w') (hB:B≤w.heap.size) (hX:∀k,k<B→¬ X k):Below B w w':=⟨h.os,h.tape,h.output,h.size,fun k hk=>h.blk k (by omega) (hX k hk)⟩
theorem KO.grown {X:Nat→Prop} {w w':World} {row:Option Nat} (h:w.grownBy w' row) (hX:∀k,row=some k→X k):KO X w w':=⟨h.os,h.tape,h.output,h.size,fun k hk hx=>h.block k hk (fun e=>hx (hX k e.symm))⟩
theorem KO.set {X:Nat→Prop} {w:World} {b j:Nat} {v:Value} (hX:X b):KO X w (w.setCell ⟨b,j,none⟩ v):=⟨rfl,rfl,rfl,by simp[World.setCell],fun k _ hx=>Below.heap_setCell _ _ _ _ (fun e=>hx (e ▸ hX))⟩
theorem KO.alloc {X:Nat→Prop} {w:World} (o:Obj):KO X w (w.alloc o):=KO.of ((Below.refl _ w).alloc (Nat.le_refl _) o)
theorem Tryz.info26:(Tryz.prog.info? 26).map (fun i=>(i.zero,i.size,i.bytes))=some (some (.slice none 0 0),1,24):=by kernel_rfl
theorem Tryz.info25:(Tryz.prog.info? 25).map (fun i=>(i.zero,i.size,i.bytes))=some (some (.slice none 0 0),1,24):=by kernel_rfl
theorem rep_set {xs:List Value} {n j:Nat} {u:Value} (hl:xs.length=n) (hj:j<n):(List.replicate j u++xs.drop j).set j u=List.replicate (j+1) u++xs.drop (j+1):=by
 rw[List.set_append_right _ _ (by simp),List.length_replicate,Nat.sub_self];have hd:xs.drop j=xs[j] :: xs.drop (j+1):=List.drop_eq_getElem_cons (by omega);rw[hd,List.set_cons_zero,List.replicate_succ',List.append_assoc];rfl
theorem rep_two {α:Type} (j:Nat) (u:α):List.replicate j u++[u,u]=List.replicate (j+2) u:=by
 rw[show [u,u]=List.replicate 2 u from rfl,List.replicate_append_replicate]
def WBk (w:World) (wb:Nat) (vss vbs vls vts:Value) (lk:Bool):Prop:=w.heap[wb]?=some (.cells #[vss,vbs,vls,vts,.bool lk] 36 (0,0))
def OldNew (w:World) (v v':Value):Prop:=∀g,v'.ownBlock=some g→v.ownBlock=some g∨w.heap.size≤g
theorem OldNew.of {w wr:World} {v v':Value} {o:Obj} (hs:w.heap.size≤wr.heap.size) (hat:v'.ownBlock=v.ownBlock∨v'.ownBlock=some (wr.alloc o).heap.size):OldNew w v v':=fun g hg=>by
 rcases hat with h | h
 ·exact .inl (h ▸ hg)
 ·rw[h,World.size_alloc]at hg;injection hg with hg
  exact .inr (by omega)
theorem WBk.cell {w:World} {wb:Nat} {vss vbs vls vts:Value} {lk:Bool} (h:WBk w wb vss vbs vls vts lk):w.cell? ⟨wb,0,none⟩=some vss∧w.cell? ⟨wb,1,none⟩=some vbs∧w.cell? ⟨wb,2,none⟩=some vls∧w.cell? ⟨wb,3,none⟩=some vts∧w.cell? ⟨wb,4,none⟩=some (.bool lk):=by
 unfold WBk at h;refine ⟨?_,?_,?_,?_,?_⟩ <;> simp[World.cell?,h]
theorem WBk.fro {w:World} {wb:Nat} {vss vbs vls vts:Value} {lk:Bool} (h:WBk w wb vss vbs vls vts lk) (j:Nat):w.frozen? ⟨wb,j,none⟩=false:=by
 unfold WBk at h;simp[World.frozen?,h]
theorem mine_any (B Bv wb:Nat) (vss vbs vls vts v:Value) (lk:Bool) (lv xs:List Value) (n:Nat) (w:World) (hwb:WBk w wb vss vbs vls vts lk) (hls:w.ownsRow B 26 1 vls lv.length lv) (hln:lv.length≤1000000) (hv:w.ownsRow Bv 9 1 v n xs) (hn:n≤2000000) (hBv:Bv≤w.heap.size) (hBw:B≤w.heap.size) :
  Calls Tryz.prog 22 #[.pointer (some ⟨wb,0,none⟩),v] w fun e w'=>e=.returned (.tuple #[])∧∃v' vls',WBk w' wb vss vbs vls' vts lk∧w'.ownsRow B 26 1 vls' (lv.length+1) (lv++[v'])∧w'.ownsRow Bv 9 1 v' (n+2) (List.replicate (n+2) (.string (markB lv.length)))∧KO (fun k=>k=wb∨vls.ownBlock=some k∨v.ownBlock=some k) w w'∧OldNew w vls vls'∧OldNew w v v':=by
 obtain ⟨i9,hi9,h90,h91,h92⟩:=info_parts Tryz.info9;obtain ⟨i26,hi26,h260,h261,h262⟩:=info_parts Tryz.info26;have hxl:xs.length=n:=by have:=hv.1;omega
 obtain ⟨va,vc,rfl,_⟩:=own_sl hv;obtain ⟨la,lc,rfl,_⟩:=own_sl hls;have c2:=hwb.cell.2.2.1;have cM:=hide (mark_any lv.length hln w);generalize hX:(fun k=>k=wb∨(Value.slice la lv.length lc).ownBlock=some k∨(Value.slice va n vc).ownBlock=some k)=X;have hXw:X wb:=by rw[← hX];exact .inl rfl
 have hXl:∀k,(Value.slice la lv.length lc).ownBlock=some k→X k:=fun k h=>by rw[← hX];exact .inr (.inl h)
 have hXv:∀k,(Value.slice va n vc).ownBlock=some k→X k:=fun k h=>by rw[← hX];exact .inr (.inr h)
 have HXX:=hide (And.intro hXw (And.intro hXl hXv));generalize markB lv.length=m at cM ⊢;have HWB:=hide hwb;have HLS:=hide hls;have HV:=hide hv;clear hwb hls hv hX hXw hXl hXv;go_enter Tryz.func22,Tryz.ntmps22
 go_wp2_with fail
 refine cM.out.mono ?_;rintro e w1 ⟨rfl,hb1⟩;have HWB1:Hid (WBk w1 wb vss vbs (.slice la lv.length lc) vts lk):=hide ((hb1.block _ (lt_of_block HWB.out)).trans HWB.out);have HLS1:=hide (own_below HLS.out hb1);have HV1:=hide (own_below HV.out hb1);have HK1:Hid (KO X w w1):=hide (KO.of hb1);clear hb1 cM HWB HLS HV c2;go_wp2
 go_loopw [15] (fun iv w2=>∃j:Nat,j≤n∧iv=.int .i64 j∧Hid (w2.ownsRow Bv 9 1 (.slice va n vc) n (List.replicate j (.string m)++xs.drop j))∧Hid (KO X w w2)∧Hid (WBk w2 wb vss vbs (.slice la lv.length lc) vts lk)∧Hid (w2.ownsRow B 26 1 (.slice la lv.length lc) lv.length lv)) (fun iv _=>n - (intOf iv).toNat)
 case atStart=>exact ⟨0,by omega,rfl,HV1,HK1,HWB1,HLS1⟩
 case round=>
  obtain ⟨j,hj,rfl,HV2,HK2,HWB2,HLS2⟩:=hrel;clear HV1 HK1 HWB1 HLS1
  by_cases hlt:j<n
  ·have hltz:(j:Int)<n:=by omega
   obtain ⟨g,cap,hga,_⟩:=own_form HV2.out (by omega);injection hga with hga _ hcc
   subst hga;subst hcc;have c0:∃u,wr.cell? ⟨g,j,none⟩=some u:=by
    rw[HV2.out.cellAt j (by omega)];exact ⟨_,List.getElem?_eq_getElem (by have:=HV2.out.1;omega)⟩
   obtain ⟨u,c0⟩:=c0;have f0:=HV2.out.frozenAt j;obtain ⟨hst,hgr⟩:=HV2.out.stored j (.string m);rw[rep_set hxl hlt]at hst;obtain ⟨cur,hcur⟩:=own_block HV2.out rfl;have HV3:=hide hst;have HK3:Hid (KO X w (wr.setCell ⟨g,j,none⟩ (.string m))):=hide (HK2.out.trans (KO.set (HXX.out.2.2 g rfl)));have HWB3:Hid (WBk (wr.setCell ⟨g,j,none⟩ (.string m)) wb vss vbs (.slice la lv.length lc) vts lk):=hide ((set_keepT hcur (by decide) _ _ _ HWB2.out).trans HWB2.out);have HLS3:=hide (own_keepT HLS2.out (set_keepT (j:=j) (u:=.string m) hcur (by decide)));clear hst hgr hcur HV2 HK2 HWB2 HLS2;go_wp2;go_roundw
   case rel=>exact ⟨j+1,by omega,by go_num,HV3,HK3,HWB3,HLS3⟩
   case measure=>simp[intOf];omega
  ·obtain rfl:j=n:=by omega
   have hltz:¬ ((j:Nat):Int)<j:=by omega
   have hv2:=HV2.out;rw[List.drop_eq_nil_of_le (by omega),List.append_nil]at hv2;have HV3:=hide hv2;have hsz2:=HK2.out.size;clear hv2 HV2
   go_wp2_with (at_builtin;first
    | (refine wpList_append_own_at _ rfl (.tmp 23) (.tmp 26) 26 rfl Bv 9 i9 (.string ⟨#[]⟩) 1 16 Tryz.underlying26 hi9 h90 h91 h92 rfl (by decide) _ _ _ rfl (HV3.out.alloc _) ⟨wr.heap.size,0,none⟩ 2 2 [.string m,.string m] rfl rfl (cell_two_at _ _ _ _ _ rfl) (fun x hx=>by simp at hx;subst hx;rfl) (by unfold maxLen;omega) (by omega) (by simp;omega) ?_;intro v3 w3 hown3 hgrow3 hnil3 hat3;obtain ⟨a3,c3,rfl,_⟩:=own_sl hown3;have HK3:Hid (KO X w w3):=hide ((HK2.out.trans (KO.alloc _)).trans (KO.grown hgrow3 HXX.out.2.2));have HT3:Hid (∀t,t≠9→KeepT t wr w3):=hide (fun t ht=>(alloc_keepT t wr _).trans (grown_keepT (HV3.out.alloc _) hgrow3 ht));have HWB3:Hid (WBk w3 wb vss vbs (.slice la lv.length lc) vts lk):=hide ((HT3.out 36 (by decide) _ _ _ HWB2.out).trans HWB2.out);have HLS3:=hide (own_keepT HLS2.out (HT3.out 26 (by decide)));have HV4:=hide hown3;have HON:Hid (OldNew w (.slice va j vc) (.slice a3 (j+2) c3)):=hide (OldNew.of hsz2 hat3);have c2:=HWB3.out.cell.2.2.1;have f2:=HWB3.out.fro 2;have hsz3:=HK3.out.size;clear hown3 hgrow3 hnil3 hat3 HT3 HWB2 HLS2 HK2 HV3)
    | (refine wpList_append_own_at _ rfl (.tmp 31) (.tmp 33) 33 rfl B 26 i26 (.slice none 0 0) 1 24 Tryz.underlying33 hi26 h260 h261 h262 rfl (by decide) _ _ _ rfl (HLS3.out.alloc _) ⟨w3.heap.size,0,none⟩ 1 1 [.slice a3 (j+2) c3] rfl rfl (cell_one_at _ _ _ _ rfl) (fun x hx=>by simp at hx;subst hx;rfl) (by unfold maxLen;omega) (by omega) (by simp;omega) ?_;intro v5 w5 hown5 hgrow5 hnil5 hat5;obtain ⟨a5,c5,rfl,_⟩:=own_sl hown5;have HK5:Hid (KO X w w5):=hide ((HK3.out.trans (KO.alloc _)).trans (KO.grown hgrow5 HXX.out.2.1));have HT5:Hid (∀t,t≠26→KeepT t w3 w5):=hide (fun t ht=>(alloc_keepT t w3 _).trans (grown_keepT (HLS3.out.alloc _) hgrow5 ht));have HWB5:Hid (WBk w5 wb vss vbs (.slice la lv.length lc) vts lk):=hide ((HT5.out 36 (by decide) _ _ _ HWB3.out).trans HWB3.out);have HV5:=hide (own_keepT HV4.out (HT5.out 9 (by decide)));have HLS5:=hide hown5;have HON5:Hid (OldNew w (.slice la lv.length lc) (.slice a5 (lv.length+1) c5)):=hide (OldNew.of hsz3 hat5);have c25:=HWB5.out.cell.2.2.1;have f25:=HWB5.out.fro 2;clear hown5 hgrow5 hnil5 hat5 HT5 HWB3 HLS3 HK3 HV4 c2 f2))
   have HWB6:Hid (WBk (w5.setCell ⟨wb,2,none⟩ (.slice a5 (lv.length+1) c5)) wb vss vbs (.slice a5 (lv.length+1) c5) vts lk):=hide (set_blk HWB5.out 2 _);have HK6:Hid (KO X w (w5.setCell ⟨wb,2,none⟩ (.slice a5 (lv.length+1) c5))):=hide (HK5.out.trans (KO.set HXX.out.1));have HV6:=hide (own_keepT HV5.out (set_keepT (j:=2) (u:=.slice a5 (lv.length+1) c5) HWB5.out (by decide)));have HLS6:=hide (own_keepT HLS5.out (set_keepT (j:=2) (u:=.slice a5 (lv.length+1) c5) HWB5.out (by decide)));go_end0;refine ⟨rfl,_,_,HWB6.out,HLS6.out,?_,HK6.out,HON5.out,HON.out⟩;have:=HV6.out
   rwa [rep_two]at this
def markN (k:Nat):Nd:=⟨markB k,0,⟨#[]⟩⟩
theorem rep_setN {ns:List Nd} {j:Nat} {u:Nd} (hj:j<ns.length):(List.replicate j u++ns.drop j).set j u=List.replicate (j+1) u++ns.drop (j+1):=by
 rw[List.set_append_right _ _ (by simp),List.length_replicate,Nat.sub_self];have hd:ns.drop j=ns[j] :: ns.drop (j+1):=List.drop_eq_getElem_cons (by omega);rw[hd,List.set_cons_zero,List.replicate_succ',List.append_assoc];rfl
theorem own_store3 {w:World} {B g cap j:Nat} {ns:List Nd} (x:Nd) (h:w.ownsRow B 42 3 (.slice (some ⟨g,0,none⟩) ns.length cap) ns.length (flat3 ns)) (hj:j<ns.length) :
  (((w.setCell ⟨g,j*3,none⟩ (.string x.path)).setCell ⟨g,j*3+1,none⟩ (.int .i64 x.kind)).setCell ⟨g,j*3+2,none⟩ (.string x.data)).ownsRow B 42 3 (.slice (some ⟨g,0,none⟩) (ns.set j x).length cap) (ns.set j x).length (flat3 (ns.set j x)):=by
 rw[flat3_set ns j x hj,List.length_set];exact ((((h.stored (j*3) (.string x.path)).1).stored (j*3+1) (.int .i64 x.kind)).1.stored (j*3+2) (.string x.data)).1
theorem six_at (w:World) (x:Nd) (n:Nat) (h:n=w.heap.size):∀j u,(flat3 [x,x])[j]?=some u→(w.alloc (.cells #[.string x.path,.int .i64 x.kind,.string x.data,.string x.path,.int .i64 x.kind,.string x.data] 42)).cell? ((⟨n,0,none⟩:Addr).add j)=some u:=by
 subst h;intro j u hj;have hk:=block_new w (.cells #[.string x.path,.int .i64 x.kind,.string x.data,.string x.path,.int .i64 x.kind,.string x.data] 42);have hadd:(⟨w.heap.size,0,none⟩:Addr).add j=⟨w.heap.size,j,none⟩:=by unfold Addr.add;split <;> simp_all
 rw[hadd];simp only[World.cell?,hk]
 match j,hj with
 | 0,hj=>exact hj
 | 1,hj=>exact hj
 | 2,hj=>exact hj
 | 3,hj=>exact hj
 | 4,hj=>exact hj
 | 5,hj=>exact hj
theorem nodes_any (B Bv wb:Nat) (vss vbs vls vts v:Value) (lk:Bool) (tv:List Value) (ns:List Nd) (w:World) (hwb:WBk w wb vss vbs vls vts lk) (hts:w.ownsRow B 25 1 vts tv.length tv) (hln:tv.length≤1000000) (hv:w.ownsRow Bv 42 3 v ns.length (flat3 ns)) (hn:ns.length≤2000000) (hBv:Bv≤w.heap.size) (hBw:B≤w.heap.size) :
  Calls Tryz.prog 21 #[.pointer (some ⟨wb,0,none⟩),v] w fun e w'=>e=.returned (.tuple #[])∧∃v' vts',WBk w' wb vss vbs vls vts' lk∧w'.ownsRow B 25 1 vts' (tv.length+1) (tv++[v'])∧w'.ownsRow Bv 42 3 v' (ns.length+2) (flat3 (List.replicate (ns.length+2) (markN tv.length)))∧KO (fun k=>k=wb∨vts.ownBlock=some k∨v.ownBlock=some k) w w'∧OldNew w vts vts'∧OldNew w v v':=by
 obtain ⟨i42,hi42,h420,h421,h422⟩:=info_parts Tryz.info42;obtain ⟨i25,hi25,h250,h251,h252⟩:=info_parts Tryz.info25;obtain ⟨va,vc,rfl,_⟩:=own_sl hv;obtain ⟨la,lc,rfl,_⟩:=own_sl hts;have c3:=hwb.cell.2.2.2.1;have cM:=hide (mark_any tv.length hln w);generalize hX:(fun k=>k=wb∨(Value.slice la tv.length lc).ownBlock=some k∨(Value.slice va ns.length vc).ownBlock=some k)=X;have hXw:X wb:=by rw[← hX];exact .inl rfl
 have hXl:∀k,(Value.slice la tv.length lc).ownBlock=some k→X k:=fun k h=>by rw[← hX];exact .inr (.inl h)
 have hXv:∀k,(Value.slice va ns.length vc).ownBlock=some k→X k:=fun k h=>by rw[← hX];exact .inr (.inr h)
 have HXX:=hide (And.intro hXw (And.intro hXl hXv));unfold markN;generalize markB tv.length=m at cM ⊢;have HLT:=hide (fun g (hg:(Value.slice va ns.length vc).ownBlock=some g)=>(hv.lt g hg).2);have HWB:=hide hwb;have HTS:=hide hts;have HV:=hide hv;clear hwb hts hv hX hXw hXl hXv;go_enter Tryz.func21,Tryz.ntmps21
 go_wp2_with fail
 refine cM.out.mono ?_;rintro e w1 ⟨rfl,hb1⟩;have hb2:=hb1.trans (((Below.refl _ w1).alloc (Nat.le_refl _) (.cells #[.string m,.int .i64 0,.string ⟨#[]⟩] 42)).mono hb1.size);have HWB1:Hid (WBk (w1.alloc (.cells #[.string m,.int .i64 0,.string ⟨#[]⟩] 42)) wb vss vbs vls (.slice la tv.length lc) lk):=hide ((hb2.block _ (lt_of_block HWB.out)).trans HWB.out);have HTS1:=hide (own_below HTS.out hb2);have HV1:=hide (own_below HV.out hb2);have HK1:Hid (KO X w (w1.alloc (.cells #[.string m,.int .i64 0,.string ⟨#[]⟩] 42))):=hide (KO.of hb2);have HMB1:=hide (block_new w1 (.cells #[.string m,.int .i64 0,.string ⟨#[]⟩] 42));have hw1:=hb1.size;clear hb1 hb2 cM HWB HTS HV c3;go_wp2;generalize w1.alloc (.cells #[.string m,.int .i64 0,.string ⟨#[]⟩] 42)=W1 at HWB1 HTS1 HV1 HK1 HMB1 ⊢;generalize w1.heap.size=mb at HMB1 hw1 ⊢
 go_loopw [16] (fun iv w2=>∃j:Nat,j≤ns.length∧iv=.int .i64 j∧Hid (w2.ownsRow Bv 42 3 (.slice va ns.length vc) ns.length (flat3 (List.replicate j ⟨m,0,⟨#[]⟩⟩++ns.drop j)))∧Hid (KO X w w2)∧Hid (WBk w2 wb vss vbs vls (.slice la tv.length lc) lk)∧Hid (w2.ownsRow B 25 1 (.slice la tv.length lc) tv.length tv)∧Hid (w2.heap[mb]?=some (.cells #[.string m,.int .i64 0,.string ⟨#[]⟩] 42 (0,0)))) (fun iv _=>ns.length - (intOf iv).toNat)
 case atStart=>exact ⟨0,by omega,rfl,HV1,HK1,HWB1,HTS1,HMB1⟩
 case round=>
  obtain ⟨j,hj,rfl,HV2,HK2,HWB2,HTS2,HMB2⟩:=hrel;clear HV1 HK1 HWB1 HTS1 HMB1;have m0:wr.cell? ⟨mb,0,none⟩=some (.string m):=by simp[World.cell?,HMB2.out]
  have m1:wr.cell? ⟨mb,1,none⟩=some (.int .i64 0):=by simp[World.cell?,HMB2.out]
  have m2:wr.cell? ⟨mb,2,none⟩=some (.string ⟨#[]⟩):=by simp[World.cell?,HMB2.out]
  by_cases hlt:j<ns.length
  ·have hltz:(j:Int)<ns.length:=by omega
   obtain ⟨g,cap,hga,_⟩:=own_form HV2.out (by omega);injection hga with hga _ hcc
   subst hga;subst hcc;have hgm:g≠mb:=by have:=HLT.out g rfl;omega
   have hrl:(List.replicate j (⟨m,0,⟨#[]⟩⟩:Nd)++ns.drop j).length=ns.length:=by simp;omega
   have cells:∀i,i<ns.length*3→∃u,wr.cell? ⟨g,i,none⟩=some u:=fun i hi=>by
    rw[HV2.out.cellAt i hi];exact ⟨_,List.getElem?_eq_getElem (by have:=HV2.out.1;omega)⟩
   obtain ⟨u0,c0⟩:=cells (j*3) (by omega);obtain ⟨u1,c1⟩:=cells (j*3+1) (by omega);obtain ⟨u2,c2⟩:=cells (j*3+2) (by omega);have f0:=HV2.out.frozenAt (j*3);have f1:=HV2.out.frozenAt (j*3+1);have f2:=HV2.out.frozenAt (j*3+2);have hst:Hid ((((wr.setCell ⟨g,j*3,none⟩ (.string m)).setCell ⟨g,j*3+1,none⟩ (.int .i64 0)).setCell ⟨g,j*3+2,none⟩ (.string ⟨#[]⟩)).ownsRow Bv 42 3 (.slice (some ⟨g,0,none⟩) ns.length vc) ns.length (flat3 (List.replicate (j+1) ⟨m,0,⟨#[]⟩⟩++ns.drop (j+1)))):=hide (by
    have h0:=HV2.out;have:=own_store3 (ns:=List.replicate j (⟨m,0,⟨#[]⟩⟩:Nd)++ns.drop j) (j:=j) ⟨m,0,⟨#[]⟩⟩ (by rw[hrl];exact h0) (by omega)
    rwa [List.length_set,hrl,rep_setN hlt]at this)
   obtain ⟨cur,hcur⟩:=own_block HV2.out rfl;have HT:Hid (∀t,t≠42→KeepT t wr (((wr.setCell ⟨g,j*3,none⟩ (.string m)).setCell ⟨g,j*3+1,none⟩ (.int .i64 0)).setCell ⟨g,j*3+2,none⟩ (.string ⟨#[]⟩))):=hide fun t ht=>((set_keepT hcur ht).trans (set_keepT (set_blk hcur _ _) ht)).trans (set_keepT (set_blk (set_blk hcur _ _) _ _) ht)
   have HK3:Hid (KO X w (((wr.setCell ⟨g,j*3,none⟩ (.string m)).setCell ⟨g,j*3+1,none⟩ (.int .i64 0)).setCell ⟨g,j*3+2,none⟩ (.string ⟨#[]⟩))):=hide (((HK2.out.trans (KO.set (HXX.out.2.2 g rfl))).trans (KO.set (HXX.out.2.2 g rfl))).trans (KO.set (HXX.out.2.2 g rfl)));have HWB3:Hid (WBk (((wr.setCell ⟨g,j*3,none⟩ (.string m)).setCell ⟨g,j*3+1,none⟩ (.int .i64 0)).setCell ⟨g,j*3+2,none⟩ (.string ⟨#[]⟩)) wb vss vbs vls (.slice la tv.length lc) lk):=hide ((HT.out 36 (by decide) _ _ _ HWB2.out).trans HWB2.out);have HTS3:=hide (own_keepT HTS2.out (HT.out 25 (by decide)));have HMB3:Hid ((((wr.setCell ⟨g,j*3,none⟩ (.string m)).setCell ⟨g,j*3+1,none⟩ (.int .i64 0)).setCell ⟨g,j*3+2,none⟩ (.string ⟨#[]⟩)).heap[mb]?=some (.cells #[.string m,.int .i64 0,.string ⟨#[]⟩] 42 (0,0))):=hide (by
    rw[Below.heap_setCell _ _ _ _ (Ne.symm hgm),Below.heap_setCell _ _ _ _ (Ne.symm hgm),Below.heap_setCell _ _ _ _ (Ne.symm hgm)];exact HMB2.out)
   clear hcur HT HV2 HK2 HWB2 HTS2 HMB2 cells hrl;go_wp2;go_roundw
   case rel=>exact ⟨j+1,by omega,by go_num,hst,HK3,HWB3,HTS3,HMB3⟩
   case measure=>simp[intOf];omega
  ·obtain rfl:j=ns.length:=by omega
   have hltz:¬ ((ns.length:Nat):Int)<ns.length:=by omega
   have hv2:=HV2.out;rw[List.drop_eq_nil_of_le (Nat.le_refl _),List.append_nil]at hv2;have HV3:=hide hv2;have hsz2:=HK2.out.size;clear hv2 HV2
   go_wp2_with (at_builtin;first
    | (refine wpList_append_own_at _ rfl (.tmp 24) (.tmp 27) 25 rfl Bv 42 i42 (.agg #[.string ⟨#[]⟩,.int .i64 0,.string ⟨#[]⟩]) 3 40 Tryz.underlying25 hi42 h420 h421 h422 rfl (by decide) _ _ _ rfl (HV3.out.alloc _) ⟨wr.heap.size,0,none⟩ 2 2 (flat3 [⟨m,0,⟨#[]⟩⟩,⟨m,0,⟨#[]⟩⟩]) rfl rfl (six_at _ ⟨m,0,⟨#[]⟩⟩ _ rfl) (flat3_one _) (by unfold maxLen;omega) (by omega) (by simp;omega) ?_;intro v3 w3 hown3 hgrow3 hnil3 hat3;obtain ⟨a3,c3,rfl,_⟩:=own_sl hown3;have HK3:Hid (KO X w w3):=hide ((HK2.out.trans (KO.alloc _)).trans (KO.grown hgrow3 HXX.out.2.2));have HT3:Hid (∀t,t≠42→KeepT t wr w3):=hide (fun t ht=>(alloc_keepT t wr _).trans (grown_keepT (HV3.out.alloc _) hgrow3 ht));have HWB3:Hid (WBk w3 wb vss vbs vls (.slice la tv.length lc) lk):=hide ((HT3.out 36 (by decide) _ _ _ HWB2.out).trans HWB2.out);have HTS3:=hide (own_keepT HTS2.out (HT3.out 25 (by decide)));have HV4:=hide hown3;have HON:Hid (OldNew w (.slice va ns.length vc) (.slice a3 (ns.length+2) c3)):=hide (OldNew.of hsz2 hat3);have c3':=HWB3.out.cell.2.2.2.1;have f3:=HWB3.out.fro 3;have hsz3:=HK3.out.size;clear hown3 hgrow3 hnil3 hat3 HT3 HWB2 HTS2 HK2 HV3 HMB2 m0 m1 m2)
    | (refine wpList_append_own_at _ rfl (.tmp 32) (.tmp 34) 34 rfl B 25 i25 (.slice none 0 0) 1 24 Tryz.underlying34 hi25 h250 h251 h252 rfl (by decide) _ _ _ rfl (HTS3.out.alloc _) ⟨w3.heap.size,0,none⟩ 1 1 [.slice a3 (ns.length+2) c3] rfl rfl (cell_one_at _ _ _ _ rfl) (fun x hx=>by simp at hx;subst hx;rfl) (by unfold maxLen;omega) (by omega) (by simp;omega) ?_;intro v5 w5 hown5 hgrow5 hnil5 hat5;obtain ⟨a5,c5,rfl,_⟩:=own_sl hown5;have HK5:Hid (KO X w w5):=hide ((HK3.out.trans (KO.alloc _)).trans (KO.grown hgrow5 HXX.out.2.1));have HT5:Hid (∀t,t≠25→KeepT t w3 w5):=hide (fun t ht=>(alloc_keepT t w3 _).trans (grown_keepT (HTS3.out.alloc _) hgrow5 ht));have HWB5:Hid (WBk w5 wb vss vbs vls (.slice la tv.length lc) lk):=hide ((HT5.out 36 (by decide) _ _ _ HWB3.out).trans HWB3.out);have HV5:=hide (own_keepT HV4.out (HT5.out 42 (by decide)));have HTS5:=hide hown5;have HON5:Hid (OldNew w (.slice la tv.length lc) (.slice a5 (tv.length+1) c5)):=hide (OldNew.of hsz3 hat5);have c35:=HWB5.out.cell.2.2.2.1;have f35:=HWB5.out.fro 3;clear hown5 hgrow5 hnil5 hat5 HT5 HWB3 HTS3 HK3 HV4 c3' f3))
   have HWB6:Hid (WBk (w5.setCell ⟨wb,3,none⟩ (.slice a5 (tv.length+1) c5)) wb vss vbs vls (.slice a5 (tv.length+1) c5) lk):=hide (set_blk HWB5.out 3 _);have HK6:Hid (KO X w (w5.setCell ⟨wb,3,none⟩ (.slice a5 (tv.length+1) c5))):=hide (HK5.out.trans (KO.set HXX.out.1));have HV6:=hide (own_keepT HV5.out (set_keepT (j:=3) (u:=.slice a5 (tv.length+1) c5) HWB5.out (by decide)));have HTS6:=hide (own_keepT HTS5.out (set_keepT (j:=3) (u:=.slice a5 (tv.length+1) c5) HWB5.out (by decide)));go_end0;refine ⟨rfl,_,_,HWB6.out,HTS6.out,?_,HK6.out,HON5.out,HON.out⟩;have:=HV6.out
   rwa [← flat3_append,rep_two]at this
end Go.Proofs.YticfcjmlphhpgaaGreatDoor
