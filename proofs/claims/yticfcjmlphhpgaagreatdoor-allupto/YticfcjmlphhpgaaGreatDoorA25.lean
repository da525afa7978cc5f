import Derived.Test.YticfcjmlphhpgaaGreatDoorA24
set_option maxRecDepth 20000
set_option maxHeartbeats 4000000
namespace Go.Proofs.YticfcjmlphhpgaaGreatDoor
open Go.RowKit
theorem ref_list:wRef.toList=[114,101,102]:=by rw[ByteArray.toList_eq];rfl
theorem sum_list:wSum.toList=[115,117,109]:=by rw[ByteArray.toList_eq];rfl
structure GOk (g:Gr):Prop where
 right:firstW g.nodes=none
theorem GOk.small {g:Gr} (h:GOk g):Small g.nodes:=by
 obtain ⟨h1,h2⟩:=tree_small h.right;exact ⟨by omega,fun n hn=>by have:=h2 n hn;omega⟩
theorem bulk_tree:∀(l:List Nd),(∀n∈l,n.path.size≤244∧n.data.size≤100)→bulk l≤l.length*1344
 | [],_=>Nat.le_refl _
 | n :: r,h=>by
  have h1:=h n (by simp);have h2:=bulk_tree r fun m hm=>h m (List.mem_cons_of_mem _ hm)
  simp only[bulk,List.length_cons];omega
theorem packB_bulk (ns:List Nd):(packB ns).size≤100+bulk ns:=by
 have e:(packB ns).size=(packBytes ns).length:=by unfold packB;simp[ByteArray.size]
 rw[e];cases ns with
 | nil=>simp[packBytes]
 | cons n r=>
  have h1:=nodeF_bulk (entsF r.length) (entsF_bulk r.length) n r;have h2:=bytesOf_cons wNar [];rw[bytesOf_nil]at h2;have h3:wNar.size=5:=rfl;simp only[packBytes,List.length_append];omega
theorem GOk.size {g:Gr} (h:GOk g):(packB g.nodes).size≤50000:=by
 obtain ⟨h1,h2⟩:=tree_small h.right;have h3:=bulk_tree g.nodes h2;have h4:=packB_bulk g.nodes;omega
section
variable {F:Nat→Prop} {B0 B R b:Nat} {w:World} {left lst nds drs cv rv av:Value} {pos:Nat} {st:IS} {h0:([]:List IV).length≤1000}
theorem takeInRefs_any (hB0:B0≤B) (h:RM (XI b cv rv av [] h0) B R w left lst nds drs pos [] st.g) (hi:IR F B b w cv rv av (live st.ph) st.all st.came st.added st.refs) (hph:st.ph=.refs) (hT:Lib.Utf8Tabs 0 1 w) (hg:GOk st.g) (s:ByteArray) :
  Calls Tryz.prog 134 #[.pointer (some ⟨R,0,none⟩),.string s] w (TIPost F B0 B R b w left pos (takeI st s)):=by
 obtain ⟨left0,pos0,ph,all,came,added,refs,g⟩:=st;simp only at hph h hi hg;subst hph;have hi':IR F B b w cv rv av true all came added refs:=hi;have hmf:∀(fn:Fn) (first cap:Array Value) (w:World),(Instr.makeFunc fn first cap).run Tryz.prog w=.ok (.func fn first cap) w:=fun _ _ _ _=>rfl
 have hBw:B≤w.heap.size:=by have:=h.lt;have:=h.BR;omega
 simp only[takeI]
 by_cases h1:s=wRef
 ·rw[if_pos h1];have hb1:(s.toList == [114,101,102])=true:=by rw[h1,ref_list];rfl
  have hM0:=hide (h.new (drewB w));have HI:=hide hi';clear h hi hi' h1 hT hg;go_enter Tryz.func134,Tryz.ntmps134;go_wp2
  go_region_with (first
   | (go_at_call 82;refine (Words_any (.func 134) _ _ _).mono ?_;rintro e w5 ⟨rfl,hb5⟩;have hM9:=hide (hM0.out.new hb5))
   | (go_at_call 80;refine (Must_tail (hM9.out.new ((Below.refl _ _).alloc (Nat.le_refl _) _)) w5.heap.size [ivF R,ivR R] (block_new w5 _) hM9.out.lstNew (by simp) (by simp)).mono ?_;rintro e w6 ⟨⟨r,rfl⟩,lst6,hM10,hb6,hk6⟩))
  all_goals
   have hw5:w.heap.size≤w5.heap.size:=Nat.le_trans (drewB w).size hb5.size;have hBa:Below B w (w5.alloc (.cells (flatI [ivF R,ivR R]).toArray 133)):=(below_ext (below_ext (Below.refl B w) hBw (drewB w)) hBw hb5).alloc (by omega) _;have hBz:Below B w w6:=hBa.trans hb6;have hKz:KT TSI w w6:=((((KT.new TSI (drewB w)).trans (KT.new TSI hb5)).alloc _).trans (hk6.mono (by decide)));have hIz:=(((HI.out.new (drewB w) hBw).new hb5 (by have:=(drewB w).size;omega)).new ((Below.refl _ _).alloc (Nat.le_refl _) (.cells (flatI [ivF R,ivR R]).toArray 133)) (by omega)).kt hb6 hk6 (by decide);have hF:=hide (show IM F B R b w6 left ⟨left0,pos,.ref,all,came,added,refs,g⟩ from ⟨lst6,_,_,_,_,_,_,_,hM10,rfl,hIz⟩);clear hM10 hIz;go_wp2;go_ret;exact ⟨rfl,hF.out,hBz.mono hB0,hKz⟩
 ·rw[if_neg h1];have hb1:(s.toList == [114,101,102])=false:=by rw[← ref_list];exact eqB_false h1
  by_cases h2:s=wSum
  ·rw[if_pos h2];have hb2:(s.toList == [115,117,109])=true:=by rw[h2,sum_list];rfl
   have hM0:=hide (h.new (drewB w));have HI:=hide hi';have hlt:=h.lt;have c5:w.drew.cell? ⟨R,5,none⟩=some nds:=by simp[World.cell?,hM0.out.blk]
   have cS:=hide (sum_any R nds g.nodes w.drew hlt (Utf8Tabs_below hT (drewB w)) c5 (own_nodes hM0.out.nd).1 hg.small hg.right (by have:=hg.size;unfold maxLen;omega));clear h hi hi' h1 h2 hT hg c5;go_enter Tryz.func134,Tryz.ntmps134;go_wp2
   go_region_with (first
    | (go_at_call 157;refine cS.out.mono ?_;rintro e w4 ⟨x1,x2,x3,rfl,hx1,hx2,hx3,hb4⟩;have hM8:=hide (hM0.out.new hb4))
    | (go_at_call 82;refine (Words_any (.func 83) _ _ _).mono ?_;rintro e w5 ⟨rfl,hb5⟩;have hM9:=hide (hM8.out.new hb5);have hy1:=(hb5.block _ (lt_of_block hx1)).trans hx1;have hy2:=(hb5.block _ (lt_of_block hx2)).trans hx2;have hy3:=(hb5.block _ (lt_of_block hx3)).trans hx3)
    | (go_at_call 80;refine (Must_tail (hM9.out.new ((Below.refl _ _).alloc (Nat.le_refl _) _)) w5.heap.size [ivS x1 x2 x3,ivX R] (block_new w5 _) hM9.out.lstNew (by simp) (by simp)).mono ?_;rintro e w6 ⟨⟨r,rfl⟩,lst6,hM10,hb6,hk6⟩))
   all_goals
    have hw5:w.heap.size≤w5.heap.size:=Nat.le_trans (drewB w).size (Nat.le_trans hb4.size hb5.size);have hBa:Below B w (w5.alloc (.cells (flatI [ivS x1 x2 x3,ivX R]).toArray 133)):=(below_ext (below_ext (below_ext (Below.refl B w) hBw (drewB w)) hBw hb4) hBw hb5).alloc (by omega) _;have hBz:Below B w w6:=hBa.trans hb6;have hKz:KT TSI w w6:=(((((KT.new TSI (drewB w)).trans (KT.new TSI hb4)).trans (KT.new TSI hb5)).alloc _).trans (hk6.mono (by decide)));have hIz:=((((HI.out.new (drewB w) hBw).new hb4 (by have:=(drewB w).size;omega)).new hb5 (by have:=(drewB w).size;have:=hb4.size;omega)).new ((Below.refl _ _).alloc (Nat.le_refl _) (.cells (flatI [ivS x1 x2 x3,ivX R]).toArray 133)) (by omega)).kt hb6 hk6 (by decide);have hz1:=hk6 _ _ _ _ (block_keep (.cells (flatI [ivS x1 x2 x3,ivX R]).toArray 133) hy1) (by decide);have hz2:=hk6 _ _ _ _ (block_keep (.cells (flatI [ivS x1 x2 x3,ivX R]).toArray 133) hy2) (by decide);have hz3:=hk6 _ _ _ _ (block_keep (.cells (flatI [ivS x1 x2 x3,ivX R]).toArray 133) hy3) (by decide);have hF:=hide (show IM F B R b w6 left ⟨left0,pos,.sum,all,came,added,refs,g⟩ from ⟨lst6,_,_,_,_,_,_,_,hM10,⟨x1,x2,x3,rfl,hz1,hz2,hz3⟩,hIz⟩);clear hM10 hIz hz1 hz2 hz3;go_wp2;go_ret;exact ⟨rfl,hF.out,hBz.mono hB0,hKz⟩
  ·rw[if_neg h2];have hb2:(s.toList == [115,117,109])=false:=by rw[← sum_list];exact eqB_false h2
   have hR:=hide h.rblk;clear h hi hi' h1 h2 hT hg;go_enter Tryz.func134,Tryz.ntmps134;go_wp2;go_ret;exact ⟨rfl,hR.out,Below.refl _ _⟩
end
theorem lastS_get (l:List ByteArray) (k:Nat) (h:l.length=k+1):lastS l=l[k]'(by omega):=by simp[lastS,h,List.getD]
theorem impPath_any {B R:Nat} {w:World} {cv:Value} {came:List ByteArray} (c9:w.cell? ⟨R,9,none⟩=some cv) (ho:w.ownsRow B 9 1 cv came.length (came.map Value.string)) (hne:came≠[]) (hl:came.length≤100000000) :
  Calls Tryz.prog 170 #[.pointer (some ⟨R,0,none⟩)] w fun e w'=>e=.returned (.string (lastS came))∧∃q,w'=w.drewN q:=by
 obtain ⟨k,hk⟩:∃k,came.length=k+1:=⟨came.length - 1,by have:=List.length_pos_iff.2 hne;omega⟩;rw[lastS_get came k hk];obtain ⟨gC,capC,rfl,hcC⟩:=own_form ho (by omega);have d0:w.cell? ⟨gC,k,none⟩=some (.string (came[k]'(by omega))):=(ho.cellAt k (by omega)).trans (by simp[hk]);rw[hk]at c9 hcC;generalize (came[k]'(by omega))=x at d0;clear ho hne;go_enter Tryz.func170,Tryz.ntmps170;go_wp2
 go_quiet (fail)
 go_wp2;go_ret;exact ⟨rfl,_,rfl⟩
section
variable {F:Nat→Prop} {B0 B R b:Nat} {w:World} {left lst nds drs cv rv av:Value} {pos:Nat} {st:IS} {tail:List IV} {htl:tail.length≤1000}
theorem RM.kt9 {w3:World} {g:Gr} (h:RM (XI b cv rv av tail htl) B R w left lst nds drs pos [] g) (hk:KT [9] w w3):RM (XI b cv rv av tail htl) B R w3 left lst nds drs pos [] g:=by
 obtain ⟨ivs,h1,h2⟩:=h.its;cases ivs with
 | cons a c=>exact h1.elim
 | nil=>exact ⟨hk _ _ _ _ h.blk (tyN (.inr rfl) (by decide)),h.BR,⟨[],trivial,own_kt h2 hk (by decide)⟩,own_kt h.nd hk (by decide),own_kt h.dr hk (by decide)⟩
theorem IR.lacks {w:World} {lv:Bool} {S:List Ent} {came added refs:List ByteArray} (h:IR F B b w cv rv av lv S came added refs) (p r:ByteArray) (hr:r.size≤1000000000) :
  Calls Tryz.prog 64 #[.map (some b),.string p,.string r] w fun e w'=>e=.returned (.bool (!lackS S p r))∧Below w.heap.size w w':=by
 obtain ⟨L,h1,h2⟩:=h.ps.st;refine (mayRefer_any b p r L w h1 h2.ents hr).mono ?_;rintro e w' ⟨rfl,hb⟩;exact ⟨by unfold lackS;rw[h2.none],hb⟩
theorem takeRef_any (hB0:B0≤B) (htail:tail=[ivR R]) (h:RM (XI b cv rv av tail htl) B R w left lst nds drs pos [] st.g) (hi:IR F B b w cv rv av (live st.ph) st.all st.came st.added st.refs) (hph:st.ph=.ref) (hne:st.came≠[]) (hcl:st.came.length≤100000000) (hrl:st.refs.length≤100000000) (s:ByteArray) (hs:s.size≤100) :
  Calls Tryz.prog 156 #[.pointer (some ⟨R,0,none⟩),.string s] w (TIPost F B0 B R b w left pos (takeI st s)):=by
 obtain ⟨left0,pos0,ph,all,came,added,refs,g⟩:=st;simp only at hph h hi hne hcl hrl;subst hph;have hi':IR F B b w cv rv av true all came added refs:=hi;have hBw:B≤w.heap.size:=by have:=h.lt;have:=h.BR;omega
 obtain ⟨⟨_,_,c10,_⟩,fz⟩:=h.more;obtain ⟨ra,rc,hrv,_⟩:=own_sl (hi'.rf rfl);obtain ⟨i9,hi9,h90,h91,h92⟩:=info_parts Tryz.info9;have H:=hide h;have HI:=hide hi';have hlt:=h.lt;have hBR:=h.BR;obtain ⟨T,hT⟩:∃T,takeI ⟨left0,pos0,.ref,all,came,added,refs,g⟩ s=T:=⟨_,rfl⟩;rw[hT];rw[takeI_ref]at hT;have HTk:=hide hT;subst hrv;clear h hi hi' hT fz;go_enter Tryz.func156,Tryz.ntmps156
 go_wp2_with (at_builtin;refine wpList_append_own_at _ rfl (.tmp 9) (.tmp 11) 26 rfl B 9 i9 (.string ⟨#[]⟩) 1 16 Tryz.underlying26 hi9 h90 h91 h92 rfl (by decide) _ _ _ rfl ((HI.out.rf rfl).alloc _) ⟨w.heap.size,0,none⟩ 1 1 [.string s] rfl rfl (cell_one_at _ _ _ _ rfl) (fun x hx=>by simp at hx;subst hx;rfl) (by unfold maxLen;omega) (by omega) (by simp;omega) ?_;intro v3 w3 hown3 hgrow3 hnil3 hat3;obtain ⟨a3,c3,rfl,_⟩:=own_sl hown3)
 have hal:=(Below.refl _ w).alloc (Nat.le_refl _) (.cells #[.string s] 9);have hB3:Below B w w3:=(hal.mono hBw).grown hgrow3 (by simp;omega) (fun k hk=>((HI.out.rf rfl).lt k hk).1);have hK3:KT [9] w w3:=((KT.refl [9] w).alloc _).grown ((HI.out.rf rfl).alloc _) hgrow3 (by decide);have hM3:=hide (H.out.kt9 hK3);have hI3:Hid (IR F B b w3 cv (.slice a3 (refs.length+1) c3) av true all came added (refs++[s])):=hide ((HI.out.new hal hBw).ref hown3 hgrow3 (Hat.of (Nat.le_refl _) hat3));have hs3:=hB3.size;have cR:=hide (rise_any (.slice a3 (refs.length+1) c3) (refs++[s]) w3 (own_strs (hI3.out.rf rfl)) (by simp;omega));have HB3:=hide hB3;have HK3:=hide hK3;clear hown3 hgrow3 hat3 hnil3 hB3 hK3 c10 H HI
 go_wp2_with fail
 refine cR.out.mono ?_;rintro e w4 ⟨rfl,hb4⟩;have hM4:=hide (hM3.out.new hb4);have hI4:=hide (hI3.out.new hb4 (by omega));have hB4:=hide (below_ext HB3.out hBw hb4);have hs4:=hb4.size;have hK4:Hid (KT TSI w w4):=hide ((HK3.out.mono (by decide)).trans (KT.new TSI hb4));clear cR hM3 hI3 HB3 HK3 hb4;cases hr:riseL (refs++[s]) with
 | false=>
  obtain rfl:T=.err 7:=by rw[← HTk.out,if_pos hr]
  go_wp2;go_ret;exact ⟨rfl,hM4.out.rblk,hB4.out.mono hB0⟩
 | true=>
  have hTk:=HTk.out;rw[if_neg (by rw[hr];simp)]at hTk;have HT2:=hide hTk;obtain ⟨⟨c8,c9,c10,_⟩,fz⟩:=hM4.out.more;have cP:=hide (fun W (hb:Below w4.heap.size w4 W)=>impPath_any (w:=W) (((hb.cell (p:=⟨R,9,none⟩) hM4.out.lt)).trans c9) (own_below hI4.out.ca hb) hne hcl);have cM:=hide (fun W (hb:Below w4.heap.size w4 W)=>(hI4.out.new hb (by omega)).lacks (lastS came) s (by omega));generalize lastS came=lp at cP cM HT2;clear HTk hTk hr c9;go_wp2;cases hl:lackS all lp s with
  | true=>
   rw[hl]at cM;obtain rfl:T=.err 13:=by rw[← HT2.out,if_pos hl]
   go_region_with (first
    | (go_at_call 170;refine (cP.out _ (drewB w4)).mono ?_;rintro e w5 ⟨rfl,q,rfl⟩)
    | (go_at_call 64;refine (cM.out _ (drewNB w4 (1+q))).mono ?_;rintro e w6 ⟨rfl,hb6⟩))
   all_goals
    have hb64:=(drewNB w4 (1+q)).trans (hb6.mono (drewNB w4 (1+q)).size);have hR6:=hide (hM4.out.new hb64).rblk;go_wp2;go_ret;exact ⟨rfl,hR6.out,(below_ext hB4.out hBw hb64).mono hB0⟩
  | false=>
   rw[hl]at cM;obtain rfl:T=.more ⟨left0,pos0,.refs,all,came,added,refs++[s],g⟩:=by rw[← HT2.out,if_neg (by rw[hl];simp)]
   go_region_with (first
    | (go_at_call 170;refine (cP.out _ (drewB w4)).mono ?_;rintro e w5 ⟨rfl,q,rfl⟩)
    | (go_at_call 64;refine (cM.out _ (drewNB w4 (1+q))).mono ?_;rintro e w6 ⟨rfl,hb6⟩))
   all_goals
    have hb64:=(drewNB w4 (1+q)).trans (hb6.mono (drewNB w4 (1+q)).size);have hM6:=hM4.out.new hb64;obtain ⟨⟨_,_,d10,_⟩,fz6⟩:=hM6.more;have f10:=fz6 10;obtain ⟨m1,b1,k1⟩:=hM6.setMore (cv':=cv) (rv':=.slice a3 (refs.length+1) c3) (av':=av) (KT.refl [9] _) (Below.refl B _) 10 (.slice a3 (refs.length+1) c3) rfl;have i1:=(hI4.out.new hb64 (by omega)).kt ((Below.refl B w6).setCell hBR _) k1 (by decide);have hF:=hide (show IM F B R b (w6.setCell ⟨R,10,none⟩ (.slice a3 (refs.length+1) c3)) left ⟨left0,pos,.refs,all,came,added,refs++[s],g⟩ from ⟨lst,_,_,_,_,_,_,_,m1,htail,i1⟩);have hBz:=hide ((below_ext hB4.out hBw hb64).trans b1);have hKz:=hide ((hK4.out.trans (KT.new TSI hb64)).trans (k1.mono (by decide)));clear m1 b1 k1 i1 hM6 fz6;go_wp2;go_ret;exact ⟨rfl,hF.out,hBz.out.mono hB0,hKz.out⟩
end
section
variable {F:Nat→Prop} {B0 B R b:Nat} {w w':World} {left lst nds drs cv rv av:Value} {pos:Nat} {g:Gr} {S:List Ent} {came added refs:List ByteArray} {lv:Bool} {tail:List IV} {htl:tail.length≤1000}
theorem own_kb {v:Value} {e s n:Nat} {xs:List Value} (h:w.ownsRow B e s v n xs) (hk:KBz b w w') (hb:b<B):w'.ownsRow B e s v n xs:=
 own_same h fun g hg=>hk.blk g (own_ge h hg).2 (fun e=>by have:=(own_ge h hg).1;omega)
theorem RM.kb (h:RM (XI b cv rv av tail htl) B R w left lst nds drs pos [] g) (hk:KBz b w w') (hb:b<B):RM (XI b cv rv av tail htl) B R w' left lst nds drs pos [] g:=by
 obtain ⟨ivs,h1,h2⟩:=h.its;cases ivs with
 | cons a c=>exact h1.elim
 | nil=>exact ⟨(hk.blk R h.lt (by have:=h.BR;omega)).trans h.blk,h.BR,⟨[],trivial,own_kb h2 hk hb⟩,own_kb h.nd hk hb,own_kb h.dr hk hb⟩
theorem kb_kt {L:List (Bs × Value)} (h:MapAt w b L) (hk:KBz b w w') (ts:List TypeId):KT ts w w':=fun k c t fz hc _=>by
 obtain ⟨es,cl,hm,_⟩:=h;exact (hk.blk k (lt_of_block hc) (fun e=>by rw[e,hm]at hc;cases hc)).trans hc
theorem put_ir (h:IR F B b w cv rv av true S came added refs) (p:ByteArray) (ns:List Nd) (hl:refs.length≤100000000) (hS:∀e∈S,e.refs.length≤1000000000) (hs:p.size≤1000000000) :
  Calls Tryz.prog 65 #[.map (some b),.string p,.agg #[.string (packB ns),rv]] w fun e w'=>e=.returned (.int .i64 (putS S ⟨p,ns,refs⟩).1)∧IR F B b w' cv rv av false (putS S ⟨p,ns,refs⟩).2 came added refs∧KBz b w w'∧∀B',B'≤b→Below B' w w':=by
 have hrf:=h.rf rfl;have hx:SliceS w rv refs:=own_strs hrf;obtain ⟨a,c,hrv,_⟩:=own_sl hrf;have hd:=h.dead (rv':=rv) (refs':=refs);have hfo:FootV (fun k=>FI F B w cv rv av false k∧k<w.heap.size) rv:=fun ad n' c' e=>by
  have hob:rv.ownBlock=some ad.block:=by rw[e];rfl
  obtain ⟨cs,fz,hc⟩:=own_kind hrf _ hob;refine ⟨.inr ⟨(own_ge hrf hob).1,?_,(h.d2 rfl _ hob).1,(h.d2 rfl _ hob).2,fun e=>by cases e⟩,(own_ge hrf hob).2⟩;exact ⟨cs,fz,hc⟩
 subst hrv;refine (put_entF (FI F B w cv (.slice a refs.length c) av false) b S ⟨p,ns,refs⟩ a refs.length c w hd.ps hfo hx (by show refs.length≤_;omega) hS hs).mono ?_;rintro e w1 ⟨rfl,hp,hk,hB⟩;refine ⟨rfl,⟨own_kb h.ca hk h.lt,own_kb h.ad hk h.lt,(fun e=>by cases e),h.d1,(fun e=>by cases e),hp.mono fun k hf=>?_,h.lt⟩,hk,hB⟩;rcases hf with hf | ⟨hBk,⟨cs,fz,hc⟩,h1⟩
 ·exact .inl hf
 ·obtain ⟨L,hm,_⟩:=h.ps.st;exact .inr ⟨hBk,⟨cs,fz,kb_kt hm hk [] _ _ _ _ hc (by simp)⟩,h1⟩
theorem keep_any (h:RM (XI b cv rv av tail htl) B R w left lst nds drs pos [] g) (hi:IR F B b w cv rv av true S came added refs) (hne:came≠[]) (hcl:came.length≤100000000) (hadl:added.length≤100000000) (hrl:refs.length≤100000000) (hS:∀e∈S,e.refs.length≤1000000000) (hps:(lastS came).size≤1000000) (ns:List Nd) :
  Calls Tryz.prog 173 #[.pointer (some ⟨R,0,none⟩),.agg #[.string (packB ns),rv]] w fun e w'=>e=.returned (.int .i64 (putS S ⟨lastS came,ns,refs⟩).1)∧(∃av',RM (XI b cv rv av' tail htl) B R w' left lst nds drs pos [] g∧IR F B b w' cv rv av' false (putS S ⟨lastS came,ns,refs⟩).2 came (if (findS S (lastS came)).isNone=true then added++[lastS came] else added) refs)∧(∀B',B'≤b→Below B' w w')∧KT TSI w w':=by
 have hBw:B≤w.heap.size:=by have:=h.lt;have:=h.BR;omega
 obtain ⟨ra,rc,hrv,_⟩:=own_sl (hi.rf rfl);have hblt:=hi.lt;subst hrv;have hal:=(Below.refl _ w).alloc (Nat.le_refl _) (.cells #[.string (packB ns),.slice ra refs.length rc] 104);have hbx1:=block_new w (.cells #[.string (packB ns),.slice ra refs.length rc] 104);have hM1:=h.new hal;have hI1:=hi.new hal hBw;have hz1:(w.alloc (.cells #[.string (packB ns),.slice ra refs.length rc] 104)).heap.size=w.heap.size+1:=by simp
 obtain ⟨⟨_,c9,_,_⟩,_⟩:=hM1.more;have cP:=hide (impPath_any c9 hI1.ca hne hcl);generalize lastS came=lp at cP hps ⊢;obtain ⟨P,hP⟩:∃P,putS S ⟨lp,ns,refs⟩=P:=⟨_,rfl⟩;obtain ⟨N,hN⟩:∃N,(findS S lp).isNone=N:=⟨_,rfl⟩;rw[hP,hN];have HP:=hide hP;have HN:=hide hN;clear hP hN;have HM1:=hide hM1;have HI1:=hide hI1;have Hal:=hide hal;have Hbx:=hide hbx1;clear h hi hM1 hI1 hal hbx1 c9;go_enter Tryz.func173,Tryz.ntmps173
 go_wp2_with fail
 refine cP.out.mono ?_;rintro e w2 ⟨rfl,q,rfl⟩;have hq:=drewNB (w.alloc (.cells #[.string (packB ns),.slice ra refs.length rc] 104)) q;have HM2:=hide (HM1.out.new hq);have HI2:=hide (HI1.out.new hq (by omega));have Hbx2:=hide ((hq.block _ (by omega)).trans Hbx.out);have HB2:=hide (Hal.out.trans (hq.mono Hal.out.size));have hz2:=hq.size;rw[hz1]at hz2;generalize (w.alloc (.cells #[.string (packB ns),.slice ra refs.length rc] 104)).drewN q=w2 at HM2 HI2 Hbx2 HB2 hz2 ⊢;clear cP HM1 HI1 Hal Hbx hq hz1;have cL:Hid (Calls Tryz.prog 72 #[.map (some b),.string lp] w2 fun e w'=>e=.returned (.bool N)∧Below w2.heap.size w2 w'):=by
  obtain ⟨L,h1,h2⟩:=HI2.out.ps.st;refine hide ((lacks_any b L lp w2 h1 h2.ents (by omega)).mono ?_);rintro e w' ⟨rfl,hb⟩;exact ⟨by rw[h2.none,HN.out],hb⟩
 obtain ⟨⟨c8,_,_,_⟩,_⟩:=HM2.out.more
 go_wp2_with fail
 refine cL.out.mono ?_;rintro e w3 ⟨rfl,hb3⟩;have HM3:=hide (HM2.out.new hb3);have HI3:=hide (HI2.out.new hb3 (by omega));have Hbx3:=hide ((hb3.block _ (by omega)).trans Hbx2.out);have HB3:=hide (HB2.out.trans (hb3.mono HB2.out.size));have hz3:=hb3.size;clear cL HM2 HI2 Hbx2 HB2 c8;have fin:∀(W:World) (av':Value) (added':List ByteArray),RM (XI b cv (.slice ra refs.length rc) av' tail htl) B R W left lst nds drs pos [] g→IR F B b W cv (.slice ra refs.length rc) av' true S came added' refs→(∀B',B'≤b→Below B' w W)→KT TSI w W→Calls Tryz.prog 65 #[.map (some b),.string lp,.agg #[.string (packB ns),.slice ra refs.length rc]] W fun e w'=>e=.returned (.int .i64 (putS S ⟨lp,ns,refs⟩).1)∧(∃av',RM (XI b cv (.slice ra refs.length rc) av' tail htl) B R w' left lst nds drs pos [] g∧IR F B b w' cv (.slice ra refs.length rc) av' false (putS S ⟨lp,ns,refs⟩).2 came added' refs)∧(∀B',B'≤b→Below B' w w')∧KT TSI w w':=by
  intro W av' added' hM hI hB hK;refine (put_ir hI lp ns hrl hS (by omega)).mono ?_;rintro e w1 ⟨rfl,hI1,hk,hB1⟩;obtain ⟨L,hm,_⟩:=hI.ps.st;exact ⟨rfl,⟨av',hM.kb hk hI.lt,hI1⟩,fun B' h'=>(hB B' h').trans (hB1 B' h'),hK.trans (kb_kt hm hk TSI)⟩
 rw[HP.out]at fin;have FIN:=hide fin;clear fin;cases N with
 | false=>
  have b0:w3.cell? ⟨w.heap.size,0,none⟩=some (.string (packB ns)):=by simp[World.cell?,Hbx3.out]
  have b1:w3.cell? ⟨w.heap.size,1,none⟩=some (.slice ra refs.length rc):=by simp[World.cell?,Hbx3.out]
  obtain ⟨⟨c8,_,_,_⟩,_⟩:=HM3.out.more;have cF:=hide (FIN.out w3.drew av added (HM3.out.new (drewB w3)) (HI3.out.new (drewB w3) (by omega)) (fun B' h'=>(HB3.out.mono (by omega)).trans ((drewB w3).mono (by omega))) ((KT.new TSI HB3.out).trans (KT.new TSI (drewB w3))));clear FIN HM3 HI3 Hbx3 HB3 hb3;go_wp2
  go_region_with (go_at_call 65;refine cF.out.mono ?_;rintro e w6 ⟨rfl,hres,hBz,hKz⟩)
  all_goals
   go_wp2;go_ret;exact ⟨rfl,hres,hBz,hKz⟩
 | true=>
  obtain ⟨⟨_,_,_,c11⟩,_⟩:=HM3.out.more;obtain ⟨aa,ac,hav,_⟩:=own_sl HI3.out.ad;obtain ⟨i9,hi9,h90,h91,h92⟩:=info_parts Tryz.info9;have hlt:=HM3.out.lt;have hBR:=HM3.out.BR;have hRrow:some R≠av.ownBlock:=fun e=>by
   obtain ⟨c,f,hc⟩:=own_kind HI3.out.ad R e.symm;rw[HM3.out.blk]at hc;injection hc with hc
   injection hc with _ hc _
   exact absurd (show (129:TypeId)=9 from hc) (by decide)
  subst hav
  go_wp2_with (at_builtin;refine wpList_append_own_at _ rfl (.tmp 18) (.tmp 20) 26 rfl B 9 i9 (.string ⟨#[]⟩) 1 16 Tryz.underlying26 hi9 h90 h91 h92 rfl (by decide) _ _ _ rfl (HI3.out.ad.alloc _) ⟨w3.heap.size,0,none⟩ 1 1 [.string lp] rfl rfl (cell_one_at _ _ _ _ rfl) (fun x hx=>by simp at hx;subst hx;rfl) (by unfold maxLen;omega) (by omega) (by simp;omega) ?_;intro v4 w4 hown4 hgrow4 hnil4 hat4;obtain ⟨a4,c4,rfl,_⟩:=own_sl hown4;have hR4:=(hgrow4.block R (by simp;omega) hRrow).trans (block_keep _ HM3.out.blk);have c114:w4.cell? ⟨R,11,none⟩=some (.slice aa added.length ac):=(by simp[World.cell?,hR4,XI]);have f114:w4.frozen? ⟨R,11,none⟩=false:=(by simp[World.frozen?,hR4]))
  have hal:=(Below.refl _ w3).alloc (Nat.le_refl _) (.cells #[.string lp] 9);have hB4:Below B w3 w4:=(hal.mono (by omega)).grown hgrow4 (by simp;omega) (fun k hk=>(HI3.out.ad.lt k hk).1);have hK4:KT [9] w3 w4:=((KT.refl [9] w3).alloc _).grown (HI3.out.ad.alloc _) hgrow4 (by decide);obtain ⟨m1,b1,k1⟩:=HM3.out.setMore (cv':=cv) (rv':=.slice ra refs.length rc) (av':=.slice a4 (added.length+1) c4) hK4 hB4 11 (.slice a4 (added.length+1) c4) rfl;have i4:IR F B b w4 cv (.slice ra refs.length rc) (.slice a4 (added.length+1) c4) true S came (added++[lp]) refs:=(HI3.out.new hal (by omega)).add hown4 hgrow4 (Hat.of (Nat.le_refl _) hat4);have i5:=i4.kt ((Below.refl B w4).setCell hBR _) k1 (by decide);have hbx4:=k1 _ _ _ _ (hK4 _ _ _ _ Hbx3.out (by decide)) (by decide);have hB5:Below B w3 (w4.setCell ⟨R,11,none⟩ (.slice a4 (added.length+1) c4)):=b1;have hK5:KT TSI w (w4.setCell ⟨R,11,none⟩ (.slice a4 (added.length+1) c4)):=((KT.new TSI HB3.out).trans (hK4.mono (by decide))).trans (k1.mono (by decide));have HB5:Hid (∀B',B'≤b→Below B' w (w4.setCell ⟨R,11,none⟩ (.slice a4 (added.length+1) c4))):=hide (fun B' h'=>(HB3.out.mono (by omega)).trans (hB5.mono (by omega)));clear hown4 hgrow4 hat4 hnil4 hB4 hK4 hR4 c114 f114 i4 k1 c11 HM3 HI3 HB3 Hbx3 hal;generalize w4.setCell ⟨R,11,none⟩ (.slice a4 (added.length+1) c4)=W5 at m1 i5 hbx4 hB5 hK5 HB5 ⊢;have b0:W5.cell? ⟨w.heap.size,0,none⟩=some (.string (packB ns)):=by simp[World.cell?,hbx4]
  have b1:W5.cell? ⟨w.heap.size,1,none⟩=some (.slice ra refs.length rc):=by simp[World.cell?,hbx4]
  obtain ⟨⟨c8,_,_,_⟩,_⟩:=m1.more;have hz5:=hB5.size;have cF:=hide (FIN.out W5.drew (.slice a4 (added.length+1) c4) (added++[lp]) (m1.new (drewB W5)) (i5.new (drewB W5) (by omega)) (fun B' h'=>(HB5.out B' h').trans ((drewB W5).mono (by omega))) (hK5.trans (KT.new TSI (drewB W5))));clear FIN m1 i5 hbx4 hB5 hK5 HB5
  go_region_with (go_at_call 65;refine cF.out.mono ?_;rintro e w6 ⟨rfl,hres,hBz,hKz⟩)
  all_goals
   go_wp2;go_ret;exact ⟨rfl,hres,hBz,hKz⟩
end
section
variable {F:Nat→Prop} {B0 B R b:Nat} {w:World} {left lst nds drs cv rv av:Value} {pos:Nat} {st:IS} {tail:List IV} {htl:tail.length≤1000}
theorem takeSum_any (hB0:B0≤b) (htail:tail=[ivX R]) (h:RM (XI b cv rv av tail htl) B R w left lst nds drs pos [] st.g) (hi:IR F B b w cv rv av (live st.ph) st.all st.came st.added st.refs) (hph:st.ph=.sum) (hne:st.came≠[]) (hcl:st.came.length≤100000000) (hadl:st.added.length≤100000000) (hrl:st.refs.length≤100000000) (hS:∀e∈st.all,e.refs.length≤1000000000) (hps:(lastS st.came).size≤1000000)
  (b1 b2 b3:Nat) (h1:w.heap[b1]?=some (.cells #[.string (sumG st.g)] 9 (0,0))) (h2:w.heap[b2]?=some (.cells #[.pointer (some ⟨R,0,none⟩)] 116 (0,0))) (h3:w.heap[b3]?=some (.cells #[.string (packB st.g.nodes)] 9 (0,0))) (s:ByteArray) :
  Calls Tryz.prog 172 #[.string s,.pointer (some ⟨b1,0,none⟩),.pointer (some ⟨b2,0,none⟩),.pointer (some ⟨b3,0,none⟩)] w (TIPost F B0 B R b w left pos (takeI st s)):=by
 obtain ⟨left0,pos0,ph,all,came,added,refs,g⟩:=st;simp only at hph h hi hne hcl hadl hrl hS hps h1 h3;subst hph;have hi':IR F B b w cv rv av true all came added refs:=hi;have hBw:B≤w.heap.size:=by have:=h.lt;have:=h.BR;omega
 have x1:w.cell? ⟨b1,0,none⟩=some (.string (sumG g)):=by simp[World.cell?,h1]
 have x2:w.cell? ⟨b2,0,none⟩=some (.pointer (some ⟨R,0,none⟩)):=by simp[World.cell?,h2]
 have x3:w.cell? ⟨b3,0,none⟩=some (.string (packB g.nodes)):=by simp[World.cell?,h3]
 obtain ⟨T,hT⟩:∃T,takeI ⟨left0,pos0,.sum,all,came,added,refs,g⟩ s=T:=⟨_,rfl⟩;rw[hT];rw[takeI_sum]at hT
 by_cases hs:s=sumG g
 ·rw[if_pos hs]at hT;subst hs;obtain ⟨⟨_,_,c10,_⟩,_⟩:=h.more;obtain ⟨ra,rc,hrv,_⟩:=own_sl (hi'.rf rfl);subst hrv;have cK:=hide (keep_any (h.new (drewB w)) (hi'.new (drewB w) hBw) hne hcl hadl hrl hS hps g.nodes);have hwr:∀(W:World),(∀B',B'≤b→Below B' w.drew W)→Below B0 w W:=fun W hW=>((drewB w).mono (by have:=hi'.lt;omega)).trans (hW B0 hB0)
  have hbb:((sumG g).toList == (sumG g).toList)=true:=by simp
  have HTk:=hide hT;clear h hi hi' h1 h2 h3 hT;go_enter Tryz.func172,Tryz.ntmps172;go_wp2
  go_region_with (go_at_call 173;refine cK.out.mono ?_;rintro e w6 ⟨rfl,⟨av',hM6,hI6⟩,hBz,hKz⟩)
  all_goals
   have hF:Hid (TIPost F B0 B R b w left pos T (.returned (.int .i64 (putS all ⟨lastS came,g.nodes,refs⟩).1)) w6):=by
    show TIPost _ _ _ _ _ _ _ _ _ _ _;rw[← HTk.out]
    by_cases hz:(putS all ⟨lastS came,g.nodes,refs⟩).1=0
    ·rw[if_pos hz,hz];exact ⟨rfl,⟨lst,_,_,_,_,_,_,_,hM6,htail,hI6⟩,hwr _ hBz,(KT.new TSI (drewB w)).trans hKz⟩
    ·rw[if_neg hz];exact ⟨rfl,hM6.rblk,hwr _ hBz⟩
   clear hM6 hI6 hBz hKz HTk;generalize (putS all ⟨lastS came,g.nodes,refs⟩).1=er at hF;go_wp2;go_ret;exact hF.out
 ·rw[if_neg hs]at hT;subst hT;have hbb:=eqB_false hs;have hR:=hide h.rblk;clear h hi hi' h1 h2 h3 hs x3 x2;go_enter Tryz.func172,Tryz.ntmps172;go_wp2;go_ret;exact ⟨rfl,hR.out,Below.refl _ _⟩
end
theorem exec_pos:∀(f:Nat) (K:List It) (l:Bs) (p p':Nat) (g:Gr) (z:Pt),exec f K ⟨l,p,g⟩=.yes z→∃z',exec f K ⟨l,p',g⟩=.yes z'∧z'.gr=z.gr
 | f,[],l,p,p',g,z,h=>by
  have h:(Ex.yes ⟨l,p,g⟩:Ex Pt)=.yes z:=by cases f <;> exact h
  injection h with h
  subst h;exact ⟨⟨l,p',g⟩,by cases f <;> rfl,rfl⟩
 | 0,_ :: _,_,_,_,_,_,h=>by cases h
 | f+1,i :: K,l,p,p',g,z,h=>by
  simp only[exec,one]at h ⊢;cases hc:cutF l i.most with
  | wait=>rw[hc]at h;cases h
  | bad e=>rw[hc]at h;cases h
  | ok s rest n=>
   rw[hc]at h;simp only at h ⊢;cases ht:takeF g i ⟨s.toArray⟩ with
   | err e=>rw[ht]at h;cases h
   | more g' push=>
    rw[ht]at h;exact exec_pos f (push++K) rest (p+n) (p'+n) g' z h
theorem run_pos {K:List It} {l:Bs} {p:Nat} (p':Nat) {g:Gr} {z:Pt} (h:run K ⟨l,p,g⟩=.yes z):∃z',run K ⟨l,p',g⟩=.yes z'∧z'.gr=z.gr:=exec_pos _ K l p p' g z h
def TreeInv (K:List It) (g:Gr):Prop:=∀x z:Pt,x.gr=g→run K x=.yes z→firstW z.gr.nodes=none
theorem TreeInv.init:TreeInv [.word wNar,.bracket] g0:=fun _ _ hx h=>(run_tree hx h).2.2
theorem TreeInv.step {g g':Gr} {i:It} {s:ByteArray} {push K:List It} (h:TreeInv (i :: K) g) (ht:takeF g i s=.more g' push) (hs:s.size≤i.most):TreeInv (push++K) g':=by
 rintro ⟨l,p,gx⟩ z rfl hr;have hsl:s.data.toList.length=s.size:=by simp
 have hm:i.most≤100:=by cases i <;> simp[It.most]
 have hc:=cut_enc s.data.toList l i.most (by omega) (by omega);obtain ⟨z',hz,hg⟩:=run_pos (0+(enc s.data.toList).length) hr;have h1:run (i :: K) ⟨enc s.data.toList++l,0,g⟩=.yes z':=by
  rw[run_cons];unfold one;simp only[hc];rw[ba_eta,ht];exact hz
 rw[← hg];exact h _ z' rfl h1
theorem TreeInv.done {g:Gr} (h:TreeInv [] g):firstW g.nodes=none:=h ⟨[],0,g⟩ ⟨[],0,g⟩ rfl (run_nil _)
def tvOk (g:Gr):Ph→Prop
 | .tree K=>TreeInv K g
 | .refs=>firstW g.nodes=none
 | .ref=>firstW g.nodes=none
 | .sum=>firstW g.nodes=none
 | _=>True
structure IInv (st:IS) (tot:Nat):Prop where
 inv:Inv ⟨st.left,st.pos,treeK st.ph,st.g⟩ tot
 cl:st.came.length≤st.pos
 adl:st.added.length≤st.pos
 rl:st.refs.length≤st.pos
 ne:live st.ph=true→st.came≠[]
 cp:∀p∈st.came,p.size≤12
 tv:tvOk st.g st.ph
 al:∀e∈st.all,e.refs.length≤1000000000
theorem IInv.sum {st:IS} {tot:Nat} (h:IInv st tot):st.pos+st.left.length≤tot:=h.inv.sum
theorem Inv.adv {l l':Bs} {p p':Nat} {g:Gr} {tot:Nat} (h:Inv ⟨l,p,[],g⟩ tot) (hp:p≤p') (hs:p'+l'.length≤tot):Inv ⟨l',p',[],g⟩ tot:=
 ⟨hs,by simp,h.ln,by have:=h.ld;simp only at *;omega,by have:=h.lp;simp only at *;omega,fun n hn=>by have:=h.np n hn;simp only at *;omega,fun d hd=>by have:=h.dp d hd;simp only at *;omega,h.cd,trivial,(fun i hi=>by cases hi)⟩
theorem Inv.start {l:Bs} {p tot:Nat} (hs:p+l.length≤tot):Inv ⟨l,p,[.word wNar,.bracket],g0⟩ tot:=
 ⟨hs,by simp,by simp[g0],by simp[g0],Nat.zero_le _,(fun n hn=>by cases hn),(fun n hn=>by cases hn),rfl,trivial,fun i hi hn=>by
  simp at hi;rcases hi with rfl | rfl <;> cases hn⟩
theorem putS_mem {S:List Ent} {x e:Ent} (h:e∈(putS S x).2):e∈S∨e=x:=by
 unfold putS at h
 split at h
 ·exact .inl h
 ·split at h
  ·exact .inl h
  ·exact (insS_mem h).symm
theorem IInv.step {st st':IS} {tot:Nat} (h:IInv st tot) (ht:tot≤1000000000) (hs:stepI st=.go st'):IInv st' tot:=by
 have hgo:=stepI_go hs;have hsum:=h.sum;unfold stepI at hs
 split at hs
 ·split at hs <;> cases hs
 ·unfold takenI at hs
  split at hs
  ·cases hs
  ·cases hs
  ·rename_i s rest n hc
   have hcl:=cutF_len hc
   split at hs
   ·cases hs
   ·rename_i st2 htk
    injection hs with hs
    subst hs;obtain ⟨l,pos,ph,all,came,added,refs,g⟩:=st;have hi:=h.inv;have c1:=h.cl;have c2:=h.adl;have c3:=h.rl;have c4:=h.ne;have c5:=h.cp;have c6:=h.tv;have c7:=h.al;simp only at hi c1 c2 c3 c4 c5 c6 c7 hsum hgo hcl hc;have hp8:8≤n:=by omega
    have d1:came.length≤pos+n:=by omega
    have d2:added.length≤pos+n:=by omega
    have d3:refs.length≤pos+n:=by omega
    have adv:∀{p:Nat} {x:Bs},Inv ⟨x,p,[],g⟩ tot→p=pos→Inv ⟨rest,pos+n,[],g⟩ tot:=fun hx hp=>Inv.adv hx (by omega) (by omega)
    cases ph with
    | done=>cases htk
    | head=>
     simp only[takeI]at htk
     split at htk
     ·injection htk with htk
      subst htk;exact ⟨adv hi rfl,d1,d2,d3,(fun e=>by cases e),c5,trivial,c7⟩
     ·cases htk
    | ent=>
     simp only[takeI]at htk
     split at htk
     ·injection htk with htk
      subst htk;exact ⟨adv hi rfl,d1,d2,d3,(fun e=>by cases e),c5,trivial,c7⟩
     ·split at htk
      ·injection htk with htk
       subst htk;exact ⟨adv hi rfl,d1,d2,d3,(fun e=>by cases e),c5,trivial,c7⟩
      ·cases htk
    | path=>
     rw[takeI_path]at htk
     split at htk
     ·cases htk
     ·rename_i hpath
      split at htk
      ·cases htk
      ·injection htk with htk
       subst htk;refine ⟨Inv.start (p:=pos+n) (l:=rest) (by omega),by show (came++[_]).length≤pos+n;simp;omega,d2,Nat.zero_le _,(fun _=>by simp),fun p hp=>?_,TreeInv.init,c7⟩;rcases List.mem_append.1 hp with hp | hp
       ·exact c5 p hp
       ·rw[List.mem_singleton]at hp;subst hp;rw[ba_size];exact hcl.2.2.2
    | refs=>
     simp only[takeI]at htk
     split at htk
     ·injection htk with htk
      subst htk;exact ⟨adv hi rfl,d1,d2,d3,c4,c5,c6,c7⟩
     ·split at htk
      ·injection htk with htk
       subst htk;exact ⟨adv hi rfl,d1,d2,d3,c4,c5,c6,c7⟩
      ·cases htk
    | ref=>
     rw[takeI_ref]at htk
     split at htk
     ·cases htk
     ·split at htk
      ·cases htk
      ·injection htk with htk
       subst htk;exact ⟨adv hi rfl,d1,d2,by show (refs++[_]).length≤pos+n;simp;omega,c4,c5,c6,c7⟩
    | sum=>
     rw[takeI_sum]at htk
     split at htk
     ·split at htk
      ·injection htk with htk
       subst htk;refine ⟨adv hi rfl,d1,?_,d3,(fun e=>by cases e),c5,trivial,fun e he=>?_⟩
       ·show (if _ then _ else _:List ByteArray).length≤pos+n
        split
        ·simp;omega
        ·omega
       ·rcases putS_mem he with he | rfl
        ·exact c7 e he
        ·show refs.length≤_;omega
      ·cases htk
     ·cases htk
    | tree K=>
     cases K with
     | nil=>
      simp only[takeI]at htk
      split at htk
      ·injection htk with htk
       subst htk;exact ⟨adv hi rfl,d1,d2,d3,c4,c5,c6.done,c7⟩
      ·cases htk
     | cons i K=>
      simp only[takeI]at htk;cases hF:takeF g i ⟨s.toArray⟩ with
      | err e=>rw[hF]at htk;cases htk
      | more g' push=>
       rw[hF]at htk;injection htk with htk
       subst htk;have hst:stepF ⟨l,pos,i :: K,g⟩=.go ⟨rest,pos+n,push++K,g'⟩:=by
        have hc':cutF l i.most=.ok s rest n:=hc;simp only[stepF,hc',hF]
       exact ⟨hi.step hst,d1,d2,d3,c4,c5,TreeInv.step c6 hF (by rw[ba_size];exact hcl.2.2.2),c7⟩
theorem IInv.add {st:IS} {tot:Nat} (h:IInv st tot) (b:Bs):IInv (st.add b) (tot+b.length):=by
 obtain ⟨l,pos,ph,all,came,added,refs,g⟩:=st;exact ⟨Inv.add (st:=⟨l,pos,treeK ph,g⟩) h.inv b,h.cl,h.adl,h.rl,h.ne,h.cp,h.tv,h.al⟩
theorem lastS_mem {l:List ByteArray} (h:l≠[]):lastS l∈l:=by
 have:0<l.length:=List.length_pos_iff.2 h;unfold lastS;rw[List.getD_eq_getElem?_getD,List.getElem?_eq_getElem (by omega),Option.getD_some];exact List.getElem_mem _
theorem impStep {F:Nat→Prop} {B0 B R b:Nat} {w:World} {left:Value} {st:IS} {tot:Nat} (hB0:B0≤b) (hbB:b<B) (hM:IM F B R b w left st) (hL:LeftAt w left st.left) (hJ:IInv st tot) (ht:tot≤50000000) (hT:Lib.Utf8Tabs 0 1 w) (hB2:2≤B) :
  StepSaid 129 B0 B R stepI IS.left (IM F B R b) w st:=by
 obtain ⟨lst,nds,drs,cv,rv,av,tail,htl,h,hta,hi⟩:=hM;have h0:B0≤B:=by omega
 have hsum:=hJ.sum;have hcl:=hJ.cl;have hadl:=hJ.adl;have hrl:=hJ.rl;obtain ⟨l,pos,ph,all,came,added,refs,g⟩:=st;simp only at h hta hi hL hsum hcl hadl hrl;cases ph with
 | done=>
  have hta:tail=[]:=hta;subst hta;obtain ⟨ivs,h1,hrs⟩:=h.rs;cases ivs with
  | cons x y=>exact h1.elim
  | nil=>
   refine step_end hrs hL (by omega) _ ?_ ?_
   ·intro hl w' hb;have e1:stepI ⟨l,pos,.done,all,came,added,refs,g⟩=.stop:=by simp only[stepI,IS.ln,if_pos,if_pos hl]
    rw[e1];exact ⟨rfl,hb⟩
   ·intro hl w' hbad hb _;have e1:stepI ⟨l,pos,.done,all,came,added,refs,g⟩=.fail 10 pos:=by simp only[stepI,IS.ln,if_pos,if_neg hl]
    rw[e1];exact ⟨rfl,hbad,hb.mono h0⟩
 | head=>
  obtain ⟨bx,rfl,hbx⟩:=hta;refine step_imp h0 (by simp[IS.ln]) h hi hL (by show l.length≤_;omega) (by show pos≤_;omega) (by simp[IS.most]) 111 #[] #[.pointer (some ⟨bx,0,none⟩)] rfl (enters_of Tryz.func111 (by kernel_rfl) rfl) ?_;intro w1 left1 lst1 pos1 s hy _ hb1 hk1 hM1 hI1;refine (takeWord_any bx wExp s w1 (hk1 _ _ _ _ hbx (by decide))).mono ?_;rintro e w2 ⟨rfl,rfl⟩;simp only[takeI]
  by_cases hs:s=wExp
  ·rw[if_pos hs,if_pos hs];exact ⟨rfl,⟨_,_,_,_,_,_,_,_,hM1,rfl,hI1⟩,Below.refl _ _,KT.refl _ _⟩
  ·rw[if_neg hs,if_neg hs];exact ⟨rfl,hM1.rblk,Below.refl _ _⟩
 | ent=>
  have hta:tail=[ivX R]:=hta;subst hta;refine step_imp h0 (by simp[IS.ln]) h hi hL (by show l.length≤_;omega) (by show pos≤_;omega) (by simp[IS.most]) 83 #[.pointer (some ⟨R,0,none⟩)] #[] rfl (enters_of Tryz.func83 (by kernel_rfl) rfl) ?_;intro w1 left1 lst1 pos1 s hy _ hb1 hk1 hM1 hI1;exact takeInExport_any h0 hM1 hI1 rfl s
 | path=>
  have hta:tail=[ivP R]:=hta;subst hta;refine step_imp h0 (by simp[IS.ln]) h hi hL (by show l.length≤_;omega) (by show pos≤_;omega) (by simp[IS.most]) 112 #[.pointer (some ⟨R,0,none⟩)] #[] rfl (enters_of Tryz.func112 (by kernel_rfl) rfl) ?_;intro w1 left1 lst1 pos1 s hy hs hb1 hk1 hM1 hI1;exact takePath_any h0 hM1 hI1 rfl s (by have:s.size≤12:=hs;omega) (by show came.length≤_;omega)
 | refs=>
  have hta:tail=[ivR R]:=hta;subst hta;refine step_imp h0 (by simp[IS.ln]) h hi hL (by show l.length≤_;omega) (by show pos≤_;omega) (by simp[IS.most]) 134 #[.pointer (some ⟨R,0,none⟩)] #[] rfl (enters_of Tryz.func134 (by kernel_rfl) rfl) ?_;intro w1 left1 lst1 pos1 s hy _ hb1 hk1 hM1 hI1;exact takeInRefs_any h0 hM1 hI1 rfl (tabs_B hB2 hT hb1) ⟨hJ.tv⟩ s
 | ref=>
  have hta:tail=[ivF R,ivR R]:=hta;subst hta;refine step_imp h0 (by simp[IS.ln]) h hi hL (by show l.length≤_;omega) (by show pos≤_;omega) (by simp[IS.most]) 156 #[.pointer (some ⟨R,0,none⟩)] #[] rfl (enters_of Tryz.func156 (by kernel_rfl) rfl) ?_;intro w1 left1 lst1 pos1 s hy hs hb1 hk1 hM1 hI1;exact takeRef_any h0 rfl hM1 hI1 rfl (hJ.ne rfl) (by show came.length≤_;omega) (by show refs.length≤_;omega) s (by have:s.size≤12:=hs;omega)
 | sum=>
  obtain ⟨b1,b2,b3,rfl,x1,x2,x3⟩:=hta;have hcp:=hJ.cp _ (lastS_mem (hJ.ne rfl));refine step_imp h0 (by simp[IS.ln]) h hi hL (by show l.length≤_;omega) (by show pos≤_;omega) (by simp[IS.most]) 172 #[] #[.pointer (some ⟨b1,0,none⟩),.pointer (some ⟨b2,0,none⟩),.pointer (some ⟨b3,0,none⟩)] rfl (enters_of Tryz.func172 (by kernel_rfl) rfl) ?_;intro w1 left1 lst1 pos1 s hy _ hb1' hk1 hM1 hI1;exact takeSum_any hB0 rfl hM1 hI1 rfl (hJ.ne rfl) (by show came.length≤_;omega) (by show added.length≤_;omega) (by show refs.length≤_;omega) hJ.al (by show (lastS came).size≤_;simp only at hcp;omega) b1 b2 b3 (hk1 _ _ _ _ x1 (by decide)) (hk1 _ _ _ _ x2 (by decide)) (hk1 _ _ _ _ x3 (by decide)) s
 | tree K=>
  cases K with
  | nil=>
   obtain ⟨bx,rfl,hbx⟩:=hta;refine step_imp h0 (by simp[IS.ln]) h hi hL (by show l.length≤_;omega) (by show pos≤_;omega) (by simp[IS.most]) 111 #[] #[.pointer (some ⟨bx,0,none⟩)] rfl (enters_of Tryz.func111 (by kernel_rfl) rfl) ?_;intro w1 left1 lst1 pos1 s hy _ hb1 hk1 hM1 hI1;refine (takeWord_any bx wRefs s w1 (hk1 _ _ _ _ hbx (by decide))).mono ?_;rintro e w2 ⟨rfl,rfl⟩;simp only[takeI]
   by_cases hs:s=wRefs
   ·rw[if_pos hs,if_pos hs];exact ⟨rfl,⟨_,_,_,_,_,_,_,_,hM1,rfl,hI1⟩,Below.refl _ _,KT.refl _ _⟩
   ·rw[if_neg hs,if_neg hs];exact ⟨rfl,hM1.rblk,Below.refl _ _⟩
  | cons i K=>
   have hst:stepI ⟨l,pos,.tree (i :: K),all,came,added,refs,g⟩=match stepF ⟨l,pos,i :: K,g⟩ with
     | .stop=>.stop
     | .fail e p=>.fail e p
     | .go s=>.go ⟨s.left,s.pos,.tree s.list,all,came,added,refs,s.gr⟩:=by
    have hln:¬ IS.ln ⟨l,pos,.tree (i :: K),all,came,added,refs,g⟩=0:=by simp[IS.ln]
    have hm:IS.most ⟨l,pos,.tree (i :: K),all,came,added,refs,g⟩=i.most:=rfl;simp only[stepI,if_neg hln,stepF,hm];cases hc:cutF l i.most with
    | wait=>rfl
    | bad e=>rfl
    | ok s rest n=>
     simp only[takenI,takeI];cases hF:takeF g i ⟨s.toArray⟩ <;> rfl
   refine (step_it (st:=⟨l,pos,i :: K,g⟩) rfl h hL hJ.inv ht hT hB2).mono ?_;intro e w' hp;rw[hst];cases hF:stepF ⟨l,pos,i :: K,g⟩ with
   | stop=>rw[hF]at hp;exact hp
   | fail er p=>
    rw[hF]at hp;exact ⟨hp.1,hp.2.1,hp.2.2.1.mono h0⟩
   | go st'=>
    rw[hF]at hp;obtain ⟨he,left',lst',nds',drs',hM',hL',hb',hk'⟩:=hp;exact ⟨he,left',⟨lst',nds',drs',cv,rv,av,tail,htl,hM',hta.kt hk' (by decide) (by decide),hi.kt hb' hk' (by decide)⟩,hL',hb'.mono h0⟩
end Go.Proofs.YticfcjmlphhpgaaGreatDoor
