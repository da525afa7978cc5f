import Derived.Test.YticfcjmlphhpgaaGreatDoorA08
import Derived.Test.YticfcjmlphhpgaaGreatDoorA09
import Derived.Laws.AppendOwnNone
set_option maxRecDepth 20000
set_option maxHeartbeats 4000000
namespace Go.Proofs.YticfcjmlphhpgaaGreatDoor
open Go.RowKit
theorem exec_list:wExec.toList=[101,120,101,99]:=by rw[ByteArray.toList_eq];rfl
theorem data_list:wData.toList=[100,97,116,97]:=by rw[ByteArray.toList_eq];rfl
theorem RM.kindSet {X:Xt} {B R:Nat} {w:World} {left lst drs:Value} {gN n cap:Nat} {pos:Nat} {list:List It} {g:Gr} (h:RM X B R w left lst (.slice (some ⟨gN,0,none⟩) n cap) drs pos list g) (k:Nat) (hk:g.nodes.length=k+1) (z:Int) :
  RM X B R (w.setCell ⟨gN,k*3+1,none⟩ (.int .i64 z)) left lst (.slice (some ⟨gN,0,none⟩) n cap) drs pos list ⟨setN g.nodes ⟨(lastN g.nodes).path,z,(lastN g.nodes).data⟩,g.dirs,g.path⟩∧Below B w (w.setCell ⟨gN,k*3+1,none⟩ (.int .i64 z))∧KT TS w (w.setCell ⟨gN,k*3+1,none⟩ (.int .i64 z)):=by
 rw[lastN_get _ k hk,setN_set _ k hk];exact h.node (k*3+1) (.int .i64 z) _ (by rw[List.length_set]) (flat3_kind g.nodes k (by omega) z)
theorem takeInFile_any {X:Xt} {B R:Nat} {w:World} {left lst nds drs:Value} {pos:Nat} {list:List It} {g:Gr} (h:RM X B R w left lst nds drs pos list g) (hbd:Bd list g) (hne:g.nodes≠[]) (s:ByteArray) :
  Calls Tryz.prog 182 #[.pointer (some ⟨R,0,none⟩),.string s] w (TakePost X B R w left pos list (takeF g .inFile s)):=by
 obtain ⟨k,hk⟩:∃k,g.nodes.length=k+1:=⟨g.nodes.length - 1,by have:=List.length_pos_iff.2 hne;omega⟩;have hk30:=hbd.ln;have hmf:∀(fn:Fn) (first cap:Array Value) (w:World),(Instr.makeFunc fn first cap).run Tryz.prog w=.ok (.func fn first cap) w:=fun _ _ _ _=>rfl
 obtain ⟨gN,capN,rfl,hcN⟩:=own_form h.nd (by omega);rw[hk]at hcN;have hk':k<g.nodes.length:=by omega
 have hBw:B≤w.heap.size:=by have:=h.lt;have:=h.BR;omega
 obtain ⟨T,hT⟩:∃T,takeF g .inFile s=T:=⟨_,rfl⟩;rw[hT];rw[take_inFile]at hT
 by_cases h1:s=wExec
 ·rw[if_pos h1]at hT;subst hT;have hb1:(s.toList == [101,120,101,99])=true:=by rw[h1,exec_list];rfl
  have c5:w.cell? ⟨R,5,none⟩=some (.slice (some ⟨gN,0,none⟩) (k+1) capN):=by simp[World.cell?,h.blk,hk]
  have cN:=hide (newest_any R gN (k+1) capN w (by omega) hcN c5 (by omega));simp only[Nat.add_sub_cancel]at cN;obtain ⟨f0,f1,f2⟩:=flat3_get g.nodes k hk';have hrow:=h.nd;have d1:∀q,(w.drewN q).cell? ⟨gN,k*3+1,none⟩=some (.int .i64 g.nodes[k].kind):=fun q=>(own_drewN hrow q).cellAt (k*3+1) (by omega) |>.trans f1
  have z1:∀q,(w.drewN q).frozen? ⟨gN,k*3+1,none⟩=false:=fun q=>(own_drewN hrow q).frozenAt (k*3+1)
  have H:=hide h;clear h hne hrow f0 f1 f2 h1;go_enter Tryz.func182,Tryz.ntmps182
  go_wp2_with fail
  refine cN.out.mono ?_;rintro e w1 ⟨rfl,q,rfl⟩;have e1:=d1 q;have y1:=z1 q;have hRM1:=H.out.new (drewNB w q);have hB1:Below B w (w.drewN q):=(drewNB w q).mono hBw;have hK1:KT TS w (w.drewN q):=KT.new TS (drewNB w q);generalize w.drewN q=w1 at e1 y1 hRM1 hB1 hK1;clear cN d1 z1 c5;obtain ⟨a1,a2,a3⟩:=hRM1.kindSet k hk 2;have hB0:=hB1.trans a2;have hK0:=hK1.trans a3;have hM0:=hide (a1.new (drewB _));clear hRM1 a1 a2 a3 hB1 hK1;generalize hW:w1.setCell ⟨gN,k*3+1,none⟩ (.int .i64 2)=W7 at hB0 hK0 hM0;go_wp2
  skip
  clear hW e1 y1
  go_region_with (first
   | (go_at_call 81;refine (Word_any wNone _).mono ?_;rintro e u1 ⟨bx1,rfl,hx1,hu1⟩;have hM1:=hide (hM0.out.new hu1);have hI1:IsIt u1 R (.word wNone) ⟨8,.func 111,#[],#[.pointer (some ⟨bx1,0,none⟩)]⟩:=⟨bx1,rfl,hx1⟩)
   | (go_at_call 81;refine (Word_any wData _).mono ?_;rintro e u2 ⟨bx2,rfl,hx2,hu2⟩;have hM2:=hide (hM1.out.new hu2);have hI1:=hI1.kept (KT.new [] hu2) (by simp);have hI2:IsIt u2 R (.word wData) ⟨8,.func 111,#[],#[.pointer (some ⟨bx2,0,none⟩)]⟩:=⟨bx2,rfl,hx2⟩)
   | (go_at_call 183;refine (data_any R _).mono ?_;rintro e u3 ⟨rfl,hu3⟩;have hM3:=hide (hM2.out.new hu3);have hI1:=hI1.kept (KT.new [] hu3) (by simp);have hI2:=hI2.kept (KT.new [] hu3) (by simp);have hI3:IsIt u3 R (.data) ⟨100,.func 185,#[.pointer (some ⟨R,0,none⟩)],#[]⟩:=rfl)
   | (go_at_call 81;refine (Word_any wClose _).mono ?_;rintro e u4 ⟨bx4,rfl,hx4,hu4⟩;have hM4:=hide (hM3.out.new hu4);have hI1:=hI1.kept (KT.new [] hu4) (by simp);have hI2:=hI2.kept (KT.new [] hu4) (by simp);have hI3:=hI3.kept (KT.new [] hu4) (by simp);have hI4:IsIt u4 R (.word wClose) ⟨8,.func 111,#[],#[.pointer (some ⟨bx4,0,none⟩)]⟩:=⟨bx4,rfl,hx4⟩)
   | (go_at_call 80;refine (Must_rm (hM4.out.new ((Below.refl _ _).alloc (Nat.le_refl _) _)) u4.heap.size [.word wNone,.word wData,.data,.word wClose] [⟨8,.func 111,#[],#[.pointer (some ⟨bx1,0,none⟩)]⟩,⟨8,.func 111,#[],#[.pointer (some ⟨bx2,0,none⟩)]⟩,⟨100,.func 185,#[.pointer (some ⟨R,0,none⟩)],#[]⟩,⟨8,.func 111,#[],#[.pointer (some ⟨bx4,0,none⟩)]⟩] ⟨hI1.kept (KT.new [] ((Below.refl _ _).alloc (Nat.le_refl _) _)) (by simp),hI2.kept (KT.new [] ((Below.refl _ _).alloc (Nat.le_refl _) _)) (by simp),hI3.kept (KT.new [] ((Below.refl _ _).alloc (Nat.le_refl _) _)) (by simp),hI4.kept (KT.new [] ((Below.refl _ _).alloc (Nat.le_refl _) _)) (by simp),trivial⟩ (block_new u4 _) hM4.out.lstNew (by have:=hbd.ll;have:=X.tl;omega) (by simp)).mono ?_;rintro e uz ⟨⟨r,rfl⟩,lstz,hRMz,hbz,hkz⟩))
  all_goals
   go_wp2;go_ret;refine ⟨rfl,lstz,_,_,hRMz,?_,?_⟩
   ·exact ((below_ext (below_ext (below_ext (below_ext (below_ext hB0 hBw (drewB W7)) hBw hu1) hBw hu2) hBw hu3) hBw hu4).alloc (by have:=hu1.size;have:=hu2.size;have:=hu3.size;have:=hu4.size;have:=(drewB W7).size;have:=hB0.size;omega) _).trans hbz
   ·exact ((((((hK0.trans (KT.new TS (drewB W7))).trans (KT.new TS hu1)).trans (KT.new TS hu2)).trans (KT.new TS hu3)).trans (KT.new TS hu4)).alloc _).trans hkz
 ·rw[if_neg h1]at hT;have hb1:(s.toList == [101,120,101,99])=false:=by rw[← exec_list];exact eqB_false h1
  by_cases h2:s=wData
  ·rw[if_pos h2]at hT;subst hT;have hb2:(s.toList == [100,97,116,97])=true:=by rw[h2,data_list];rfl
   have hB0:Below B w w:=Below.refl _ _;have hK0:KT TS w w:=KT.refl _ _;have hM0:=hide (h.new (drewB w));clear h h1 h2;go_enter Tryz.func182,Tryz.ntmps182;go_wp2
   go_region_with (first
    | (go_at_call 183;refine (data_any R _).mono ?_;rintro e u1 ⟨rfl,hu1⟩;have hM1:=hide (hM0.out.new hu1);have hI1:IsIt u1 R (.data) ⟨100,.func 185,#[.pointer (some ⟨R,0,none⟩)],#[]⟩:=rfl)
    | (go_at_call 81;refine (Word_any wClose _).mono ?_;rintro e u2 ⟨bx2,rfl,hx2,hu2⟩;have hM2:=hide (hM1.out.new hu2);have hI1:=hI1.kept (KT.new [] hu2) (by simp);have hI2:IsIt u2 R (.word wClose) ⟨8,.func 111,#[],#[.pointer (some ⟨bx2,0,none⟩)]⟩:=⟨bx2,rfl,hx2⟩)
    | (go_at_call 80;refine (Must_rm (hM2.out.new ((Below.refl _ _).alloc (Nat.le_refl _) _)) u2.heap.size [.data,.word wClose] [⟨100,.func 185,#[.pointer (some ⟨R,0,none⟩)],#[]⟩,⟨8,.func 111,#[],#[.pointer (some ⟨bx2,0,none⟩)]⟩] ⟨hI1.kept (KT.new [] ((Below.refl _ _).alloc (Nat.le_refl _) _)) (by simp),hI2.kept (KT.new [] ((Below.refl _ _).alloc (Nat.le_refl _) _)) (by simp),trivial⟩ (block_new u2 _) hM2.out.lstNew (by have:=hbd.ll;have:=X.tl;omega) (by simp)).mono ?_;rintro e uz ⟨⟨r,rfl⟩,lstz,hRMz,hbz,hkz⟩))
   all_goals
    go_wp2;go_ret;refine ⟨rfl,lstz,_,_,hRMz,?_,?_⟩
    ·exact ((below_ext (below_ext (below_ext hB0 hBw (drewB w)) hBw hu1) hBw hu2).alloc (by have:=hu1.size;have:=hu2.size;have:=(drewB w).size;have:=hB0.size;omega) _).trans hbz
    ·exact ((((hK0.trans (KT.new TS (drewB w))).trans (KT.new TS hu1)).trans (KT.new TS hu2)).alloc _).trans hkz
  ·rw[if_neg h2]at hT;subst hT;have hb2:(s.toList == [100,97,116,97])=false:=by rw[← data_list];exact eqB_false h2
   clear h1 h2;go_enter Tryz.func182,Tryz.ntmps182;go_wp2;go_ret;exact ⟨rfl,Below.refl _ _⟩
theorem enter_big (base:Nat) (v:Value) (ds:List (ByteArray × ByteArray)) (path:ByteArray) (kind:Int) (data:ByteArray) (w:World) (hown:w.ownsRow base 195 2 v ds.length (flat2 ds)) (hbase:base≤w.heap.size) (hlen:ds.length≤100000000) (hs:path.size≤1000000000) :
  Calls Tryz.prog 140 #[v,.agg #[.string path,.int .i64 kind,.string data]] w fun e w'=>∃v',e=.returned v'∧w'.ownsRow base 195 2 v' (enterL ds path kind).length (flat2 (enterL ds path kind))∧KE 195 base w w':=by
 obtain ⟨i0,hi,hz0,hz1,hz2⟩:=info_parts Tryz.info195
 by_cases h4:kind=4
 ·subst h4;have hE:enterL ds path 4=ds++[(prefixIn path,⟨#[]⟩)]:=by simp[enterL]
  rw[hE];clear hE;have hp:=hide (prefixIn_any path (w.alloc (.cells #[.string path,.int .i64 4,.string data] 42)) hs);generalize prefixIn path=q at hp;go_enter Tryz.func140,Tryz.ntmps140
  go_wp2_with fail
  refine hp.out.mono ?_;rintro e w1 ⟨rfl,rfl⟩;clear hp
  go_wp2_with (at_builtin;refine wpList_append_own _ rfl (.tmp 8) (.tmp 13) 123 rfl base 195 i0 (.agg #[.string ⟨#[]⟩,.string ⟨#[]⟩]) 2 32 Tryz.underlying123 hi hz0 hz1 hz2 rfl (by decide) _ _ _ rfl ((hown.alloc _).alloc _) ⟨w.heap.size+1,0,none⟩ 1 1 [.string q,.string ⟨#[]⟩] rfl rfl (cell_two_at _ _ _ _ _ (by simp)) (fun x hx=>by simp at hx;rcases hx with rfl | rfl <;> rfl) (by unfold maxLen;omega) (by omega) (by simp;omega) ?_;intro v' w3 hown3 hgrow3 hnil3)
  go_ret;refine ⟨_,rfl,?_,?_⟩
  ·rw[flat2_append,List.length_append];exact hown3
  ·exact (((KE.refl 195 base w).alloc hbase _).alloc (by simp;omega) _).grown ((hown.alloc _).alloc _) hgrow3 (by simp;omega)
 ·have hE:enterL ds path kind=ds:=by simp[enterL,h4]
  have h4b:(kind == 4)=false:=beq_eq_false_iff_ne.2 h4;rw[hE];clear hE h4;go_enter Tryz.func140,Tryz.ntmps140;go_wp2;go_ret;exact ⟨_,rfl,hown.alloc _,(KE.refl 195 base w).alloc hbase _⟩
theorem RM.setDirs {X:Xt} {B R:Nat} {w w3:World} {left lst nds drs:Value} {pos:Nat} {list:List It} {g:Gr} (h:RM X B R w left lst nds drs pos list g) (hk:KT [195] w w3) (hb:Below B w w3) (dirs':Ds) (drs':Value) (hown:w3.ownsRow B 195 2 drs' dirs'.length (flat2 dirs')) :
  RM X B R (w3.setCell ⟨R,6,none⟩ drs') left lst nds drs' pos list ⟨g.nodes,dirs',g.path⟩∧Below B w (w3.setCell ⟨R,6,none⟩ drs')∧KT TS w (w3.setCell ⟨R,6,none⟩ drs'):=by
 have hR3:=hk _ _ _ _ h.blk (tyN X.ok (by decide));obtain ⟨ivs,h1,h2⟩:=h.its;have hne:∀{e:TypeId} {s n:Nat} {v:Value} {xs:List Value},w3.ownsRow B e s v n xs→e≠X.ty→v.ownBlock≠some R:=fun ho he e=>by
  obtain ⟨c,fz,hc⟩:=own_kind ho R e;rw[hR3]at hc;injection hc with hc
  injection hc with _ hc _
  exact he hc.symm
 have o1:=own_kt h2 hk (by decide);have o2:=own_kt h.nd hk (by decide);have hkR:KT TS w (w3.setCell ⟨R,6,none⟩ drs'):=KT.set (hk.mono (by decide)) hR3 (tyI X.ok (by decide)) 6 drs';refine ⟨⟨block_set hR3 6 drs',h.BR,⟨ivs,?_,ownsRow_setCell_other o1 (hne o1 (tyD X.ok (by decide))) _⟩,ownsRow_setCell_other o2 (hne o2 (tyD X.ok (by decide))) _,ownsRow_setCell_other hown (hne hown (tyD X.ok (by decide))) _⟩,hb.setCell h.BR _,hkR⟩;exact h1.kept hkR (by decide)
theorem kt_ke {e:TypeId} {base:Nat} {w w':World} (h:KE e base w w'):KT [e] w w':=fun i c t f hi ht=>h.block (fun e'=>ht (by simp[e'])) hi
theorem file_list:wFile.toList=[102,105,108,101]:=by rw[ByteArray.toList_eq];rfl
theorem link_list:wLink.toList=[108,105,110,107]:=by rw[ByteArray.toList_eq];rfl
theorem dir_list:wDir.toList=[100,105,114]:=by rw[ByteArray.toList_eq];rfl
theorem takeKind_any {X:Xt} {B R:Nat} {w:World} {left lst nds drs:Value} {pos:Nat} {list:List It} {g:Gr} (h:RM X B R w left lst nds drs pos list g) (hbd:Bd list g) (hne:g.nodes≠[]) (s:ByteArray) :
  Calls Tryz.prog 174 #[.pointer (some ⟨R,0,none⟩),.string s] w (TakePost X B R w left pos list (takeF g .kind s)):=by
 obtain ⟨k,hk⟩:∃k,g.nodes.length=k+1:=⟨g.nodes.length - 1,by have:=List.length_pos_iff.2 hne;omega⟩;have hk30:=hbd.ln;have hmf:∀(fn:Fn) (first cap:Array Value) (w:World),(Instr.makeFunc fn first cap).run Tryz.prog w=.ok (.func fn first cap) w:=fun _ _ _ _=>rfl
 obtain ⟨gN,capN,rfl,hcN⟩:=own_form h.nd (by omega);rw[hk]at hcN;have hk':k<g.nodes.length:=by omega
 have hBw:B≤w.heap.size:=by have:=h.lt;have:=h.BR;omega
 have c5:w.cell? ⟨R,5,none⟩=some (.slice (some ⟨gN,0,none⟩) (k+1) capN):=by simp[World.cell?,h.blk,hk]
 have cN:=hide (newest_any R gN (k+1) capN w (by omega) hcN c5 (by omega));simp only[Nat.add_sub_cancel]at cN;obtain ⟨f0,f1,f2⟩:=flat3_get g.nodes k hk';have hrow:=h.nd;have d1:∀q,(w.drewN q).cell? ⟨gN,k*3+1,none⟩=some (.int .i64 g.nodes[k].kind):=fun q=>(own_drewN hrow q).cellAt (k*3+1) (by omega) |>.trans f1
 have z1:∀q,(w.drewN q).frozen? ⟨gN,k*3+1,none⟩=false:=fun q=>(own_drewN hrow q).frozenAt (k*3+1)
 have H:=hide h;clear h hne hrow f0 f1 f2;obtain ⟨T,hT⟩:∃T,takeF g .kind s=T:=⟨_,rfl⟩;rw[hT];rw[take_kind]at hT
 by_cases h1:s=wFile
 ·rw[if_pos h1]at hT;subst hT;have hb1:(s.toList == [102,105,108,101])=true:=by rw[h1,file_list];rfl
  clear h1;go_enter Tryz.func174,Tryz.ntmps174
  go_wp2_with fail
  refine cN.out.mono ?_;rintro e w1 ⟨rfl,q,rfl⟩;have e1:=d1 q;have y1:=z1 q;have hRM1:=H.out.new (drewNB w q);have hB1:Below B w (w.drewN q):=(drewNB w q).mono hBw;have hK1:KT TS w (w.drewN q):=KT.new TS (drewNB w q);generalize w.drewN q=w1 at e1 y1 hRM1 hB1 hK1;clear cN d1 z1 c5;obtain ⟨a1,a2,a3⟩:=hRM1.kindSet k hk 1;have hB0:=hB1.trans a2;have hK0:=hK1.trans a3;have hM0:=hide (a1.new (drewB _));have hMp:=hide a1;clear hRM1 a1 a2 a3 hB1 hK1;generalize hW:w1.setCell ⟨gN,k*3+1,none⟩ (.int .i64 1)=W7 at hB0 hK0 hM0 hMp;go_wp2;clear hW e1 y1
  go_region_with (first
   | (go_at_call 82;refine (Words_any (.func 182) _ _ _).mono ?_;rintro e u1 ⟨rfl,hu1⟩;have hM1:=hide (hM0.out.new hu1);have hI1:IsIt u1 R (.inFile) ⟨8,.func 182,#[.pointer (some ⟨R,0,none⟩)],#[]⟩:=rfl)
   | (go_at_call 80;refine (Must_rm (hM1.out.new ((Below.refl _ _).alloc (Nat.le_refl _) _)) u1.heap.size [.inFile] [⟨8,.func 182,#[.pointer (some ⟨R,0,none⟩)],#[]⟩] ⟨hI1.kept (KT.new [] ((Below.refl _ _).alloc (Nat.le_refl _) _)) (by simp),trivial⟩ (block_new u1 _) hM1.out.lstNew (by have:=hbd.ll;have:=X.tl;omega) (by simp)).mono ?_;rintro e uz ⟨⟨r,rfl⟩,lstz,hRMz,hbz,hkz⟩))
  all_goals
   go_wp2;go_ret;refine ⟨rfl,lstz,_,_,hRMz,?_,?_⟩
   ·exact ((below_ext (below_ext hB0 hBw (drewB W7)) hBw hu1).alloc (by have:=hu1.size;have:=(drewB W7).size;have:=hB0.size;omega) _).trans hbz
   ·exact (((hK0.trans (KT.new TS (drewB W7))).trans (KT.new TS hu1)).alloc _).trans hkz
 ·rw[if_neg h1]at hT;have hb1:(s.toList == [102,105,108,101])=false:=by rw[← file_list];exact eqB_false h1
  by_cases h2:s=wLink
  ·rw[if_pos h2]at hT;subst hT;have hb2:(s.toList == [108,105,110,107])=true:=by rw[h2,link_list];rfl
   clear h1 h2;go_enter Tryz.func174,Tryz.ntmps174
   go_wp2_with fail
   refine cN.out.mono ?_;rintro e w1 ⟨rfl,q,rfl⟩;have e1:=d1 q;have y1:=z1 q;have hRM1:=H.out.new (drewNB w q);have hB1:Below B w (w.drewN q):=(drewNB w q).mono hBw;have hK1:KT TS w (w.drewN q):=KT.new TS (drewNB w q);generalize w.drewN q=w1 at e1 y1 hRM1 hB1 hK1;clear cN d1 z1 c5;obtain ⟨a1,a2,a3⟩:=hRM1.kindSet k hk 3;have hB0:=hB1.trans a2;have hK0:=hK1.trans a3;have hM0:=hide (a1.new (drewB _));have hMp:=hide a1;clear hRM1 a1 a2 a3 hB1 hK1;generalize hW:w1.setCell ⟨gN,k*3+1,none⟩ (.int .i64 3)=W7 at hB0 hK0 hM0 hMp;go_wp2;clear hW e1 y1
   go_region_with (first
    | (go_at_call 81;refine (Word_any wTo _).mono ?_;rintro e u1 ⟨bx1,rfl,hx1,hu1⟩;have hM1:=hide (hM0.out.new hu1);have hI1:IsIt u1 R (.word wTo) ⟨8,.func 111,#[],#[.pointer (some ⟨bx1,0,none⟩)]⟩:=⟨bx1,rfl,hx1⟩)
    | (go_at_call 183;refine (data_any R _).mono ?_;rintro e u2 ⟨rfl,hu2⟩;have hM2:=hide (hM1.out.new hu2);have hI1:=hI1.kept (KT.new [] hu2) (by simp);have hI2:IsIt u2 R (.data) ⟨100,.func 185,#[.pointer (some ⟨R,0,none⟩)],#[]⟩:=rfl)
    | (go_at_call 81;refine (Word_any wClose _).mono ?_;rintro e u3 ⟨bx3,rfl,hx3,hu3⟩;have hM3:=hide (hM2.out.new hu3);have hI1:=hI1.kept (KT.new [] hu3) (by simp);have hI2:=hI2.kept (KT.new [] hu3) (by simp);have hI3:IsIt u3 R (.word wClose) ⟨8,.func 111,#[],#[.pointer (some ⟨bx3,0,none⟩)]⟩:=⟨bx3,rfl,hx3⟩)
    | (go_at_call 80;refine (Must_rm (hM3.out.new ((Below.refl _ _).alloc (Nat.le_refl _) _)) u3.heap.size [.word wTo,.data,.word wClose] [⟨8,.func 111,#[],#[.pointer (some ⟨bx1,0,none⟩)]⟩,⟨100,.func 185,#[.pointer (some ⟨R,0,none⟩)],#[]⟩,⟨8,.func 111,#[],#[.pointer (some ⟨bx3,0,none⟩)]⟩] ⟨hI1.kept (KT.new [] ((Below.refl _ _).alloc (Nat.le_refl _) _)) (by simp),hI2.kept (KT.new [] ((Below.refl _ _).alloc (Nat.le_refl _) _)) (by simp),hI3.kept (KT.new [] ((Below.refl _ _).alloc (Nat.le_refl _) _)) (by simp),trivial⟩ (block_new u3 _) hM3.out.lstNew (by have:=hbd.ll;have:=X.tl;omega) (by simp)).mono ?_;rintro e uz ⟨⟨r,rfl⟩,lstz,hRMz,hbz,hkz⟩))
   all_goals
    go_wp2;go_ret;refine ⟨rfl,lstz,_,_,hRMz,?_,?_⟩
    ·exact ((below_ext (below_ext (below_ext (below_ext hB0 hBw (drewB W7)) hBw hu1) hBw hu2) hBw hu3).alloc (by have:=hu1.size;have:=hu2.size;have:=hu3.size;have:=(drewB W7).size;have:=hB0.size;omega) _).trans hbz
    ·exact (((((hK0.trans (KT.new TS (drewB W7))).trans (KT.new TS hu1)).trans (KT.new TS hu2)).trans (KT.new TS hu3)).alloc _).trans hkz
  ·rw[if_neg h2]at hT;have hb2:(s.toList == [108,105,110,107])=false:=by rw[← link_list];exact eqB_false h2
   by_cases h3:s=wDir
   ·rw[if_pos h3]at hT;subst hT;have hb3:(s.toList == [100,105,114])=true:=by rw[h3,dir_list];rfl
    clear h1 h2 h3;go_enter Tryz.func174,Tryz.ntmps174
    go_wp2_with fail
    refine cN.out.mono ?_;rintro e w1 ⟨rfl,q,rfl⟩;have e1:=d1 q;have y1:=z1 q;have hRM1:=H.out.new (drewNB w q);have hB1:Below B w (w.drewN q):=(drewNB w q).mono hBw;have hK1:KT TS w (w.drewN q):=KT.new TS (drewNB w q);generalize w.drewN q=w1 at e1 y1 hRM1 hB1 hK1;clear cN d1 z1 c5;obtain ⟨a1,a2,a3⟩:=hRM1.kindSet k hk 4;have hB0:=hB1.trans a2;have hK0:=hK1.trans a3;have hM0:=hide (a1.new (drewB _));have hMp:=hide a1;clear hRM1 a1 a2 a3 hB1 hK1;generalize hW:w1.setCell ⟨gN,k*3+1,none⟩ (.int .i64 4)=W7 at hB0 hK0 hM0 hMp;go_wp2;clear hW e1 y1;obtain ⟨p,hp⟩:∃p,(lastN g.nodes).path=p:=⟨_,rfl⟩;obtain ⟨d,hd⟩:∃d,(lastN g.nodes).data=d:=⟨_,rfl⟩;rw[hp,hd]at hMp;rw[hp,hd];have hps:p.size≤100000000:=by
     rw[← hp,lastN_get _ k hk];exact hbd.np _ (List.getElem_mem _)
    have hlN:(setN g.nodes ⟨p,4,d⟩).length=k+1:=by rw[setN_set _ k hk,List.length_set,hk]
    obtain ⟨e0,e1,e2⟩:=flat3_get (setN g.nodes ⟨p,4,d⟩) k (by omega);have hget:(setN g.nodes ⟨p,4,d⟩)[k]'(by omega)=⟨p,4,d⟩:=by simp[setN_set _ k hk]
    rw[hget]at e0 e1 e2;have hnd:W7.ownsRow B 42 3 (.slice (some ⟨gN,0,none⟩) g.nodes.length capN) g.nodes.length (flat3 (setN g.nodes ⟨p,4,d⟩)):=by
     have:=hMp.out.nd;simp only[hlN]at this;rw[← hk]at this;exact this
    have n0:W7.cell? ⟨gN,k*3,none⟩=some (.string p):=(hnd.cellAt (k*3) (by omega)).trans e0;have n1:W7.cell? ⟨gN,k*3+1,none⟩=some (.int .i64 4):=(hnd.cellAt (k*3+1) (by omega)).trans e1;have n2:W7.cell? ⟨gN,k*3+2,none⟩=some (.string d):=(hnd.cellAt (k*3+2) (by omega)).trans e2;have c6:W7.cell? ⟨R,6,none⟩=some drs:=by simp[World.cell?,hMp.out.blk]
    have hMd:=hide (hMp.out.new (drewB W7));have hR7:=hMp.out.lt;clear e0 e1 e2 hget hM0 hMp hnd
    go_region_with (go_at_call 140;refine (enter_big B drs g.dirs p 4 d _ hMd.out.dr (by have:=hMd.out.lt;have:=hMd.out.BR;omega) hbd.ld (by omega)).mono ?_;rintro e w4 ⟨v4,rfl,hown4,hk4⟩;obtain ⟨a4,cap4,rfl,hc4⟩:=own_slice hown4;have hR4:=hk4.block (tyD X.ok (by decide)).symm hMd.out.blk;have c64:w4.cell? ⟨R,6,none⟩=some drs:=(by simp[World.cell?,hR4]);have f64:w4.frozen? ⟨R,6,none⟩=false:=(by simp[World.frozen?,hR4]))
    all_goals
     obtain ⟨a1,a2,a3⟩:=hMd.out.setDirs (kt_ke hk4) hk4.bel (enterL g.dirs p 4) _ hown4;have hE:enterL g.dirs p 4=g.dirs++[(prefixIn p,⟨#[]⟩)]:=by simp[enterL]
     rw[hE]at a1 a2 a3 ⊢;have hB9:=(below_ext hB0 hBw (drewB W7)).trans a2;have hK9:=(hK0.trans (KT.new TS (drewB W7))).trans a3;generalize w4.setCell ⟨R,6,none⟩ (.slice a4 (g.dirs++[(prefixIn p,(⟨#[]⟩:ByteArray))]).length cap4)=W8 at a1 hB9 hK9 ⊢;have hM0:=hide (a1.new (drewB W8));clear a1 a2 a3 c64 f64 hR4 hown4 hk4 c6 n0 n1 n2;go_wp2
     go_region_with (first
      | (go_at_call 82;refine (Words_any (.func 184) _ _ _).mono ?_;rintro e u1 ⟨rfl,hu1⟩;have hM1:=hide (hM0.out.new hu1);have hI1:IsIt u1 R (.inDir) ⟨8,.func 184,#[.pointer (some ⟨R,0,none⟩)],#[]⟩:=rfl)
      | (go_at_call 80;refine (Must_rm (hM1.out.new ((Below.refl _ _).alloc (Nat.le_refl _) _)) u1.heap.size [.inDir] [⟨8,.func 184,#[.pointer (some ⟨R,0,none⟩)],#[]⟩] ⟨hI1.kept (KT.new [] ((Below.refl _ _).alloc (Nat.le_refl _) _)) (by simp),trivial⟩ (block_new u1 _) hM1.out.lstNew (by have:=hbd.ll;have:=X.tl;omega) (by simp)).mono ?_;rintro e uz ⟨⟨r,rfl⟩,lstz,hRMz,hbz,hkz⟩))
     all_goals
      go_wp2;go_ret;subst hp;subst hd;refine ⟨rfl,lstz,_,_,hRMz,?_,?_⟩
      ·exact ((below_ext (below_ext hB9 hBw (drewB W8)) hBw hu1).alloc (by have:=hu1.size;have:=(drewB W8).size;have:=hB9.size;omega) _).trans hbz
      ·exact (((hK9.trans (KT.new TS (drewB W8))).trans (KT.new TS hu1)).alloc _).trans hkz
   ·rw[if_neg h3]at hT;subst hT;have hb3:(s.toList == [100,105,114])=false:=by rw[← dir_list];exact eqB_false h3
    clear h1 h2 h3;go_enter Tryz.func174,Tryz.ntmps174
    go_wp2_with fail
    refine cN.out.mono ?_;rintro e w1 ⟨rfl,q,rfl⟩;go_wp2;go_ret;exact ⟨rfl,drewNB w q⟩
def StepPost (X:Xt) (B R:Nat) (w:World) (r:Out) (e:Ending) (w':World):Prop:=match r with
 | .stop=>e=.returned (.bool false)∧Below w.heap.size w w'
 | .fail er p=>e=.returned (.bool false)∧RBad X.ty B R w' er p∧Below B w w'∧(er == 0)=false
 | .go st'=>e=.returned (.bool true)∧∃left' lst' nds' drs',RM X B R w' left' lst' nds' drs' st'.pos st'.list st'.gr∧LeftAt w' left' st'.left∧Below B w w'∧KT TS w w'
theorem takeF_err {g:Gr} {i:It} {s:ByteArray} {e:Int} (h:takeF g i s=.err e):(e == 0)=false:=by
 have key:e=5∨e=6∨e=7∨e=8∨e=9:=by
  cases i with
  | word w=>rw[take_word]at h;split at h <;> first | (cases h;done) | (injection h with h;omega)
  | bracket=>
   rw[take_bracket]at h
   split at h
   ·split at h
    ·injection h with h;omega
    ·split at h <;> first | (cases h;done) | (injection h with h;omega)
   ·injection h with h;omega
  | kind=>
   rw[take_kind]at h
   split at h
   ·cases h
   ·split at h
    ·cases h
    ·split at h <;> first | (cases h;done) | (injection h with h;omega)
  | inFile=>
   rw[take_inFile]at h
   split at h
   ·cases h
   ·split at h <;> first | (cases h;done) | (injection h with h;omega)
  | inDir=>
   rw[take_inDir]at h
   split at h
   ·cases h
   ·split at h <;> first | (cases h;done) | (injection h with h;omega)
  | name=>
   rw[take_name]at h
   split at h
   ·injection h with h;omega
   ·split at h <;> first | (cases h;done) | (injection h with h;omega)
  | data=>rw[take_data]at h;split at h <;> first | (cases h;done) | (injection h with h;omega)
 rw[beq_eq_false_iff_ne];omega
section
variable {X:Xt} {B R:Nat} {w:World} {left lst nds drs:Value} {pos:Nat} {list r:List It} {g:Gr} {l:Bs} {i:It}
theorem RM.rs (h:RM X B R w left lst nds drs pos list g):∃ivs,ItsAt w R list ivs∧RdS X.ty B R w left lst nds drs (.string g.path) pos (ivs++X.tail) X.more:=by
 obtain ⟨ivs,h1,h2⟩:=h.its;refine ⟨ivs,h1,h.blk,h.BR,?_,X.ok⟩;rw[List.length_append,h1.len];exact h2
theorem RM.back {w1:World} {left1 lst1:Value} {pos1:Nat} {ivs:List IV} (h:RM X B R w left lst nds drs pos list g) (hr:RdS X.ty B R w1 left1 lst1 nds drs (.string g.path) pos1 (ivs++X.tail) X.more) (hk:KT TR w w1) (hi:ItsAt w R r ivs):RM X B R w1 left1 lst1 nds drs pos1 r g:=by
 refine ⟨hr.blk,hr.BR,⟨ivs,hi.kept hk (by decide),?_⟩,own_kt h.nd hk (by decide),own_kt h.dr hk (by decide)⟩;have:=hr.its
 rwa [List.length_append,hi.len]at this
theorem RM.rblk (h:RM X B R w left lst nds drs pos list g):RBlk X.ty R w:=⟨_,_,_,_,_,_,_,_,_,h.blk⟩
theorem step_cons (h:RM X B R w left lst nds drs pos (i :: r) g) (hL:LeftAt w left l) (hl:l.length≤100000000) (hp:pos≤100000000) (hr:r.length≤90000000)
  (k:FuncId) (hent:∀args w,(callFunc k args).run Tryz.prog w=.ok (.enter k args) w)
  (hsaid:∀x,IsIt w R i x→∃first cap,x=⟨i.most,.func k,first,cap⟩∧∀(w1:World) (left1 lst1:Value) (pos1:Nat) (s:ByteArray),s.size≤100→Below B w w1→KT TR w w1→RM X B R w1 left1 lst1 nds drs pos1 r g→Calls Tryz.prog k (first++#[.string s]++cap) w1 (TakePost X B R w1 left1 pos1 r (takeF g i s))) :
  Calls Tryz.prog 137 #[.pointer (some ⟨R,0,none⟩)] w (StepPost X B R w (stepF ⟨l,pos,i :: r,g⟩)):=by
 obtain ⟨ivs,h1,hrs⟩:=h.rs;cases ivs with
 | nil=>exact h1.elim
 | cons x y=>
  obtain ⟨first,cap,hx,hS⟩:=hsaid x h1.1;have hmost:i.most≤100:=by cases i <;> simp[It.most]
  have hyl:=h1.2.len;have htl:=X.tl;refine step_gen (y:=y++X.tail) hrs hL hl hp (by rw[List.length_append,hyl];omega) i.most hmost k first cap hx hent _ ?_ ?_ ?_
  ·intro hc w' hb;simp only[stepF,hc];exact ⟨rfl,hb⟩
  ·intro er hc w' hbad hb _;simp only[stepF,hc];exact ⟨rfl,hbad,hb,by rcases cutF_bad hc with rfl | rfl <;> rfl⟩
  ·intro s rst c hc w1 left1 lst1 hr1 hL1 hb1 hk1;have hcl:=cutF_len hc;have hM1:=h.back hr1 hk1 h1.2;refine (hS w1 left1 lst1 (pos+c) ⟨s.toArray⟩ (by rw[ba_size];omega) hb1 hk1 hM1).mono ?_;intro e w2 hp2;cases ht:takeF g i ⟨s.toArray⟩ with
   | err er=>
    rw[ht]at hp2;obtain ⟨rfl,hb2⟩:=hp2;refine .inr ⟨er,takeF_err ht,rfl,(hM1.new hb2).rblk,fun w' hbad hb _=>?_⟩;simp only[stepF,hc,ht];exact ⟨rfl,hbad,(below_ext hb1 (by have:=h.lt;have:=h.BR;omega) hb2).trans hb,takeF_err ht⟩
   | more g' push=>
    rw[ht]at hp2;obtain ⟨rfl,lst2,nds2,drs2,hM2,hb2,hk2⟩:=hp2;refine .inl ⟨rfl,?_⟩;simp only[stepF,hc,ht];exact ⟨rfl,left1,lst2,nds2,drs2,hM2,hL1.kept hk2 (by decide),hb1.trans hb2,(hk1.mono (by decide)).trans hk2⟩
theorem word_post (sw:ByteArray) (s:ByteArray) (bw:Nat) (h:RM X B R w left lst nds drs pos r g) (hb:w.heap[bw]?=some (.cells #[.string sw] 9 (0,0))) :
  Calls Tryz.prog 111 #[.string s,.pointer (some ⟨bw,0,none⟩)] w (TakePost X B R w left pos r (takeF g (.word sw) s)):=by
 refine (takeWord_any bw sw s w hb).mono ?_;rintro e w' ⟨rfl,rfl⟩;rw[take_word]
 by_cases hs:s=sw
 ·rw[if_pos hs,if_pos hs];exact ⟨rfl,_,_,_,h,Below.refl _ _,KT.refl _ _⟩
 ·rw[if_neg hs,if_neg hs];exact ⟨rfl,Below.refl _ _⟩
end
theorem takeInDir_any {X:Xt} {B R:Nat} {w:World} {left lst nds drs:Value} {pos:Nat} {list:List It} {g:Gr} (h:RM X B R w left lst nds drs pos list g) (hbd:Bd list g) (hne:g.dirs≠[]) (s:ByteArray) :
  Calls Tryz.prog 184 #[.pointer (some ⟨R,0,none⟩),.string s] w (TakePost X B R w left pos list (takeF g .inDir s)):=by
 by_cases hs:s=wEntry
 ·subst hs;exact takeInDir_entry h hbd
 ·exact takeInDir_close h hbd hne s hs
theorem Inv.bd {st:St} {tot:Nat} (h:Inv st tot) (ht:tot≤50000000) {i:It} {r:List It} (hl:st.list=i :: r):Bd r st.gr:=by
 have h1:=h.sum;have h2:=h.ll;rw[hl,List.length_cons]at h2;have h4:=h.ld;have h5:=h.lp;exact ⟨by omega,h.ln,by omega,by omega,fun n hn=>by have:=h.np n hn;omega,fun d hd=>by have:=h.dp d hd;omega⟩
theorem step_it {X:Xt} {B R:Nat} {w:World} {left lst nds drs:Value} {st:St} {tot:Nat} {i:It} {r:List It} (hlist:st.list=i :: r) (h:RM X B R w left lst nds drs st.pos st.list st.gr) (hL:LeftAt w left st.left) (hI:Inv st tot) (ht:tot≤50000000) (hT:Lib.Utf8Tabs 0 1 w) (hB2:2≤B) :
  Calls Tryz.prog 137 #[.pointer (some ⟨R,0,none⟩)] w (StepPost X B R w (stepF st)):=by
 obtain ⟨l,pos,list,g⟩:=st;have hsum:=hI.sum;simp only at h hL hsum hlist;subst hlist;have hbd:=hI.bd ht rfl;obtain ⟨hN,hD⟩:=hI.head rfl;simp only at hbd hN hD;have hrl:=hbd.ll;cases i with
 | word sw=>exact step_cons h hL (by omega) (by omega) hrl 111 (enters_of Tryz.func111 (by kernel_rfl) rfl) (fun x hx=>by
   obtain ⟨bw,hxe,hb⟩:=hx;exact ⟨_,_,hxe,fun w1 left1 lst1 pos1 s _ _ hk hm=>word_post sw s bw hm (hk _ _ _ _ hb (by decide))⟩)
 | bracket=>exact step_cons h hL (by omega) (by omega) hrl 158 (enters_of Tryz.func158 (by kernel_rfl) rfl) (fun x hx=>⟨_,_,hx,fun w1 left1 lst1 pos1 s _ _ _ hm=>takeBracket_any hm hbd s⟩)
 | kind=>exact step_cons h hL (by omega) (by omega) hrl 174 (enters_of Tryz.func174 (by kernel_rfl) rfl) (fun x hx=>⟨_,_,hx,fun w1 left1 lst1 pos1 s _ _ _ hm=>takeKind_any hm hbd (hN rfl) s⟩)
 | inFile=>exact step_cons h hL (by omega) (by omega) hrl 182 (enters_of Tryz.func182 (by kernel_rfl) rfl) (fun x hx=>⟨_,_,hx,fun w1 left1 lst1 pos1 s _ _ _ hm=>takeInFile_any hm hbd (hN rfl) s⟩)
 | inDir=>exact step_cons h hL (by omega) (by omega) hrl 184 (enters_of Tryz.func184 (by kernel_rfl) rfl) (fun x hx=>⟨_,_,hx,fun w1 left1 lst1 pos1 s _ _ _ hm=>takeInDir_any hm hbd (hD (.inl rfl)) s⟩)
 | name=>exact step_cons h hL (by omega) (by omega) hrl 186 (enters_of Tryz.func186 (by kernel_rfl) rfl) (fun x hx=>⟨_,_,hx,fun w1 left1 lst1 pos1 s hs hb _ hm=>takeName_any hm hbd (hD (.inr rfl)) s (by omega) (tabs_B hB2 hT hb)⟩)
 | data=>exact step_cons h hL (by omega) (by omega) hrl 185 (enters_of Tryz.func185 (by kernel_rfl) rfl) (fun x hx=>⟨_,_,hx,fun w1 left1 lst1 pos1 s hs _ _ hm=>takeData_any hm hbd (hN rfl) s (by omega)⟩)
theorem step_any {B R:Nat} {w:World} {left lst nds drs:Value} {st:St} {tot:Nat} (h:RM X0 B R w left lst nds drs st.pos st.list st.gr) (hL:LeftAt w left st.left) (hI:Inv st tot) (ht:tot≤50000000) (hT:Lib.Utf8Tabs 0 1 w) (hB2:2≤B) :
  Calls Tryz.prog 137 #[.pointer (some ⟨R,0,none⟩)] w (StepPost X0 B R w (stepF st)):=by
 cases hlist:st.list with
 | cons i r=>exact step_it hlist h hL hI ht hT hB2
 | nil=>
  obtain ⟨l,pos,list,g⟩:=st;have hsum:=hI.sum;simp only at h hL hsum hlist;subst hlist;obtain ⟨ivs,h1,hrs⟩:=h.rs;cases ivs with
  | cons x y=>exact h1.elim
  | nil=>
   refine step_end hrs hL (by omega) _ ?_ ?_
   ·intro h0 w' hb;simp only[stepF,if_pos h0];exact ⟨rfl,hb⟩
   ·intro h0 w' hbad hb _;simp only[stepF,if_neg h0];exact ⟨rfl,hbad,hb,rfl⟩
theorem strCells_of (s:ByteArray):Lib.strCells s=cellsOf s.data.toList:=rfl
theorem own_left {w:World} {B:Nat} {v:Value} {l:Bs} (h:w.ownsRow B 5 1 v l.length (cellsOf l)):LeftAt w v l:=by
 rcases h.2 with ⟨rfl,h0⟩ | ⟨g,cap,cur,rfl,hg,hh,hn,hm,hc,hx⟩
 ·exact ⟨none,0,by rw[h0],by omega,fun _=>rfl,(fun x h=>by cases h),fun hl=>by omega⟩
 ·refine ⟨_,cap,rfl,hn,(fun h=>by cases h),(fun x h=>by cases h;rfl),fun _=>⟨g,0,cur,(0,0),rfl,hh,fun i hi=>?_⟩⟩;have hrow:w.ownsRow B 5 1 (.slice (some ⟨g,0,none⟩) l.length cap) l.length (cellsOf l):=h;rw[Nat.zero_add,hrow.cellAt i (by omega)];simp[cellsOf,hi]
theorem cells_bytes {w:World} {g o:Nat} {l:Bs} (h:BytesAt w g o l):∀j u,(cellsOf l)[j]?=some u→w.cell? ((⟨g,o,none⟩:Addr).add j)=some u:=by
 intro j u hj;have hl:j<l.length:=by rw[← cellsOf_length];exact (List.getElem?_eq_some_iff.1 hj).1
 have ha:(⟨g,o,none⟩:Addr).add j=⟨g,o+j,none⟩:=by unfold Addr.add;split <;> simp_all
 rw[ha,h j hl,← hj];simp[cellsOf,hl]
theorem cells_one (l:Bs):∀u∈cellsOf l,u.oneCell'=true:=by
 intro u hu;simp only[cellsOf,List.mem_map]at hu;obtain ⟨b,_,rfl⟩:=hu;rfl
section
variable {T:TypeId} {B R:Nat} {w:World} {left lst n d p:Value} {pos:Nat} {ivs:List IV} {m:List Value}
theorem RdS.setLeft {w3:World} (h:RdS T B R w left lst n d p pos ivs m) (hk:KT [5] w w3) (v:Value) :
  RdS T B R (w3.setCell ⟨R,0,none⟩ v) v lst n d p pos ivs m∧KT TR w3 (w3.setCell ⟨R,0,none⟩ v):=by
 have hR3:=hk _ _ _ _ h.blk (tyN h.ok (by decide));have hk2:KT TR w3 (w3.setCell ⟨R,0,none⟩ v):=(KT.refl TR w3).set hR3 (tyI h.ok (by decide)) _ _;exact ⟨⟨block_set hR3 0 _,h.BR,own_kt (own_kt h.its hk (by decide)) hk2 (by decide),h.ok⟩,hk2⟩
theorem own_set {w3:World} {v:Value} {l:Bs} (h:w3.ownsRow B 5 1 v l.length (cellsOf l)) (hk:KT TR w3 (w3.setCell ⟨R,0,none⟩ v)):(w3.setCell ⟨R,0,none⟩ v).ownsRow B 5 1 v l.length (cellsOf l):=own_kt h hk (by decide)
theorem Add_rs (h:RdS T B R w left lst n d p pos ivs m) (l:Bs) (hown:w.ownsRow B 5 1 left l.length (cellsOf l)) (s:ByteArray) (hl:l.length≤100000000) (hs:s.size≤100000000) :
  Calls Tryz.prog 136 #[.pointer (some ⟨R,0,none⟩),.string s] w fun e w'=>(∃r,e=.returned r)∧∃v w3,w'=w3.setCell ⟨R,0,none⟩ v∧w3.ownsRow B 5 1 v (l++s.data.toList).length (cellsOf (l++s.data.toList))∧KT [5] w w3∧Below B w w3:=by
 obtain ⟨i0,hi,hz0,hz1,hz2⟩:=info_parts Tryz.info5;have c0:w.cell? ⟨R,0,none⟩=some left:=by simp[World.cell?,h.blk]
 have hBw:B≤w.heap.size:=by have:=h.lt;have:=h.BR;omega
 have hlt:=h.lt;have hRrow:some R≠left.ownBlock:=fun e=>by
  obtain ⟨c,fz,hc⟩:=own_kind hown R e.symm;rw[h.blk]at hc;injection hc with hc
  injection hc with _ hc _
  exact tyD (e:=5) h.ok (by decide) hc.symm
 have H:=hide h;have HO:=hide hown;clear h hown;go_enter Tryz.func136,Tryz.ntmps136
 go_wp2_with (at_builtin;refine Lib.wpList_append_own_string _ rfl (.tmp 8) (.tmp 9) 95 9 rfl B 5 i0 Tryz.underlying95 Tryz.underlying9 hi hz0 hz1 hz2 left _ _ rfl HO.out s rfl (by unfold maxLen;omega) (by omega) (by omega) ?_;intro v3 w3 hown3 hgrow3 hnil3;obtain ⟨a3,cap3,rfl,hc3⟩:=own_slice hown3;have hR3:=(hgrow3.block R (by omega) hRrow).trans H.out.blk;have c03:w3.cell? ⟨R,0,none⟩=some left:=(by simp[World.cell?,hR3]);have f03:w3.frozen? ⟨R,0,none⟩=false:=(by simp[World.frozen?,hR3]))
 go_end0;have hll:(l++s.data.toList).length=l.length+s.size:=by simp
 refine ⟨⟨_,rfl⟩,_,w3,rfl,?_,(KT.refl [5] w).grown HO.out hgrow3 (by decide),(Below.refl B w).grown hgrow3 hBw (fun k hk=>(HO.out.lt k hk).1)⟩;rw[cellsOf_append,hll,← strCells_of];exact hown3
theorem Trim_any {x1:Value} {m:List Value} (x0:Value) (hR:w.heap[R]?=some (.cells ⟨x0 :: x1 :: m⟩ T (0,0))) (hBR:B≤R) (l:Bs) (hL:LeftAt w x0 l) (hl:l.length≤100000000) :
  Calls Tryz.prog 138 #[.pointer (some ⟨R,0,none⟩)] w fun e w'=>(∃r,e=.returned r)∧∃v w3,w'=w3.setCell ⟨R,0,none⟩ v∧w3.ownsRow B 5 1 v l.length (cellsOf l)∧KT [5] w w3∧Below B w w3:=by
 obtain ⟨i0,hi,hz0,hz1,hz2⟩:=info_parts Tryz.info5;obtain ⟨a,cap,rfl,hc,hz,hy,hb⟩:=hL;have c0:w.cell? ⟨R,0,none⟩=some (.slice a l.length cap):=by simp[World.cell?,hR]
 have f0:w.frozen? ⟨R,0,none⟩=false:=by simp[World.frozen?,hR]
 have hlt:=lt_of_block hR;cases a with
 | none=>
  have hc0:=hz rfl;subst hc0;have hl0:l=[]:=List.eq_nil_of_length_eq_zero (by omega);subst hl0;clear hb hz hy;go_enter Tryz.func138,Tryz.ntmps138
  go_wp2_with (at_builtin;refine wpList_append_own_none rfl (.const (.slice none 0 0)) (.tmp 6) 95 rfl B 5 i0 1 Tryz.underlying95 hi (.slice none 0 0) 0 [] rfl (World.ownsRow_nil _ _ _ _) rfl ?_)
  go_end0;exact ⟨⟨_,rfl⟩,_,w,rfl,World.ownsRow_nil _ _ _ _,KT.refl _ _,Below.refl _ _⟩
 | some ad=>
  obtain ⟨gB,o,spot⟩:=ad;obtain rfl:spot=none:=hy _ rfl;have hbytes:BytesAt w gB o l:=by
   rcases Nat.eq_zero_or_pos l.length with h0 | h0
   ·rw[List.eq_nil_of_length_eq_zero h0];exact BytesAt.nil _ _ _
   ·obtain ⟨g',o',c,fz,e,_,hB'⟩:=hb h0;cases e;exact hB'
  have HBy:=hide hbytes;clear hb hz hy hbytes;go_enter Tryz.func138,Tryz.ntmps138
  go_wp2_with (at_builtin;refine wpList_append_own _ rfl (.const (.slice none 0 0)) (.tmp 6) 95 rfl B 5 i0 (.int .u8 0) 1 1 Tryz.underlying95 hi hz0 hz1 hz2 rfl (by decide) (.slice none 0 0) 0 [] rfl (World.ownsRow_nil _ _ _ _) ⟨gB,o,none⟩ l.length cap (cellsOf l) rfl (by rw[cellsOf_length];omega) (cells_bytes HBy.out) (cells_one l) (by unfold maxLen;omega) (by omega) (by omega) ?_;intro v3 w3 hown3 hgrow3 hnil3;rw[Nat.zero_add,List.nil_append]at hown3;obtain ⟨a3,cap3,rfl,hc3⟩:=own_slice hown3;have hR3:=(hgrow3.block R hlt (by simp[Value.ownBlock])).trans hR;have c03:w3.cell? ⟨R,0,none⟩=some (.slice (some ⟨gB,o,none⟩) l.length cap):=(by simp[World.cell?,hR3]);have f03:w3.frozen? ⟨R,0,none⟩=false:=(by simp[World.frozen?,hR3]))
  go_end0;have hg0:Below w.heap.size w w3:=(Below.refl _ w).grown hgrow3 (Nat.le_refl _) (fun k hk=>by simp[Value.ownBlock]at hk);exact ⟨⟨_,rfl⟩,_,w3,rfl,hown3,KT.new _ hg0,hg0.mono (by omega)⟩
end
end Go.Proofs.YticfcjmlphhpgaaGreatDoor
